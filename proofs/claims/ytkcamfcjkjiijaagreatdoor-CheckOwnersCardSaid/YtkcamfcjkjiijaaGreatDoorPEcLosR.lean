/-
  The reference's Lost: what those lose that a package replaces; nothing old turns.
-/
import Derived.Test.YtkcamfcjkjiijaaGreatDoorPEcLost
import Derived.Test.YtkcamfcjkjiijaaGreatDoorPEcSps
import Derived.Test.YtkcamfcjkjiijaaGreatDoorPEcShr
namespace Go.Proofs.YtkcamfcjkjiijaaGreatDoor
open Go.RowKit Go.Shelf
set_option maxRecDepth 100000 in
set_option maxHeartbeats 16000000 in
theorem lost_ref (x : Stv) (y : Pv) (hd : x.ds.length ≤ 90000) (hl : x.ls.length ≤ 90000) (hp : ∀ p ∈ x.ls, p.1.2.length ≤ 90000) (hn : y.fl.length ≤ 90000) (hr : y.rp.length ≤ 90000) (w : World) (hx : InSt w x) (hy : InP w y) :
    Calls Tryz.prog 27 #[agS x, agP y] w (LostPost w (lostTo x.ds y.nm y.rp (placesL x.ds y.nm y.fl) x.ls x.ls.length)) := by
  obtain ⟨i0, hi, hz0, hz1, hz2'⟩ := info_parts infoL
  obtain ⟨w2, hw2, hz2, b2, c7, c11⟩ := two_boxes x y w
  have PL : Hid (∀ W, Below w2.heap.size w2 W → Calls Tryz.prog 55 #[agS x, agP y] W fun e w' => ∃ r, e = .returned r ∧ OwnT w' W.heap.size r (placesL x.ds y.nm y.fl) ∧ Below W.heap.size W w') := Lib.hid (fun W hb => spots_ref x hd y hn W (hx.on (b2.trans (hb.mono b2.size))) (hy.on (b2.trans (hb.mono b2.size))))
  have hal : (placesL x.ds y.nm y.fl).length ≤ 90000 := Nat.le_trans (places_len _ _ _) hn
  obtain ⟨ats, hats⟩ : ∃ ats, placesL x.ds y.nm y.fl = ats := ⟨_, rfl⟩
  rw [hats] at PL hal ⊢
  have FI : Hid (∀ W (k : ByteArray), Below w2.heap.size w2 W → Calls Tryz.prog 58 #[x.lv, .string k] W fun e w' => e = .returned (.int .i64 (idxGxT x.ls (nameIs k.data.toList))) ∧ W = w') := Lib.hid (fun W k hb => find13_ref x.lv x.ls hl k W ((hx.on (b2.trans (hb.mono b2.size))).ls))
  have CT : Hid (∀ W (q : ByteArray), Below w2.heap.size w2 W → Calls Tryz.prog 31 #[y.rv, .string q] W fun e w' => e = .returned (.bool (decide (q.data.toList ∈ y.rp))) ∧ W = w') := Lib.hid (fun W q hb => has13_any y.rv y.rp hr q W ((hy.on (b2.trans (hb.mono b2.size))).rp))
  have LO : Hid (∀ W (nm : ByteArray) (pv u : Value) (ps : List Bs), Below w2.heap.size w2 W → ps.length ≤ 90000 → HoldT W pv ps → HoldT W u ats → Calls Tryz.prog 50 #[agS x, .agg #[.string nm, pv], u] W fun e w' => ∃ r, e = .returned r ∧ OwnT w' W.heap.size r (locL x.ds nm.data.toList ps ats) ∧ Below W.heap.size W w') := Lib.hid (fun W nm pv u ps hb h1 h2 h3 => shared_ref x hd nm pv ps h1 u ats hal W (hx.on (b2.trans (hb.mono b2.size))) h2 h3)
  have C7 : Hid (∀ W, Below w2.heap.size w2 W → Cell7 w.heap.size W x) := Lib.hid (fun W hb => c7.on hb)
  have C11 : Hid (∀ W, Below w2.heap.size w2 W → Cell11 (w.heap.size + 1) W y) := Lib.hid (fun W hb => c11.on hb)
  obtain ⟨hin, a, c, b, o, hlv', hc, ha, hcell⟩ := (hx.on b2).ls
  have HI := Lib.hid hin
  have HC := Lib.hid hcell
  have HP := Lib.hid hp
  obtain ⟨⟨⟨ra, rc, -, -, hrv, -⟩, -⟩, ⟨oa, on, oc, hov⟩, ⟨aa, an, ac, hav⟩, ⟨ia, im, ic, hiv⟩, ⟨fa, fn, fc, hfv⟩, ⟨da, dn, dc, hdv⟩, -⟩ := inS7_of hx
  obtain ⟨⟨pda, pdc, _, _, pdv, -⟩, -⟩ := hy.dp
  obtain ⟨pca, pcc, _, _, pcv, -⟩ := hy.cn
  obtain ⟨pra, prc, _, _, prv, -⟩ := hy.rp
  obtain ⟨pfa, pfc, _, _, pfv, -⟩ := hy.fl
  obtain ⟨pia, pic, _, _, piv, -⟩ := hy.it
  obtain ⟨⟨pa0, pc0, _, _, pv0, -⟩, -⟩ := hy.s0
  obtain ⟨⟨pa1, pc1, _, _, pv1, -⟩, -⟩ := hy.s1
  obtain ⟨⟨pa2, pc2, _, _, pv2, -⟩, -⟩ := hy.s2
  obtain ⟨⟨pa3, pc3, _, _, pv3, -⟩, -⟩ := hy.s3
  have HB2 := Lib.hid b2
  have HW2 := Lib.hid hw2
  have HZ2 := Lib.hid hz2
  obtain ⟨n, hN⟩ : ∃ n, x.ls.length = n := ⟨_, rfl⟩
  rw [hN] at hlv' hc ha hl ⊢
  have HN := Lib.hid hN
  obtain ⟨F, hF⟩ : ∃ F : Nat → List Ls, (fun k => lostTo x.ds y.nm y.rp ats x.ls k) = F := ⟨_, rfl⟩
  have HF0 : Hid (F 0 = []) := Lib.hid (by rw [← hF]; rfl)
  have HTK : Hid (∀ k p, x.ls[k]? = some p → F (k + 1) = F k ++ (if losB y.nm y.rp x.ls k p = true ∧ 0 < (locL x.ds p.1.1 p.1.2 ats).length then [(p.1.1, locL x.ds p.1.1 p.1.2 ats)] else []) ∧ (F k).length ≤ k) := Lib.hid (fun k p h => by
    rw [← hF]
    exact ⟨lostTo_next h, lostTo_len _ _ _ _ _ _⟩)
  have HFE : Hid (F n = lostTo x.ds y.nm y.rp ats x.ls n) := Lib.hid (by rw [← hF])
  obtain ⟨RES, hRES⟩ : ∃ q, lostTo x.ds y.nm y.rp ats x.ls n = q := ⟨_, rfl⟩
  rw [hRES] at HFE ⊢
  clear hF hRES hcell hin hN hx hy b2 hw2 hz2 hd c7 c11 hats hp hal
  obtain ⟨rs, ds, ls, rv, dv, ov, av, iv, fv, lv⟩ := x
  obtain ⟨nm, vr, dp, cn, rp, fl, it, s0, s1, s2, s3, qdv, qcv, qrv, qfv, qiv, v0, v1, v2, v3⟩ := y
  unfold agS agP
  unfold agS agP at PL
  unfold agS at LO
  unfold Cell7 at C7
  unfold Cell11 at C11
  dsimp only at *
  subst hrv hov hav hiv hfv hdv hlv' pdv pcv prv pfv piv pv0 pv1 pv2 pv3
  simp only [List.length_map] at *
  generalize rs.length = rn at *
  generalize dp.length = dpn at *
  generalize cn.length = cnn at *
  generalize it.length = itn at *
  generalize fl.length = fln at *
  generalize s0.length = sn0 at *
  generalize s1.length = sn1 at *
  generalize s2.length = sn2 at *
  generalize s3.length = sn3 at *
  generalize rp.length = rpn at *
  have hNMt : (⟨nm.toArray⟩ : ByteArray).data.toList = nm := by simp
  generalize (⟨nm.toArray⟩ : ByteArray) = NM at *
  have HNM := Lib.hid hNMt
  clear hNMt
  generalize (⟨vr.toArray⟩ : ByteArray) = VR at *
  go_enter Tryz.func27, Tryz.ntmps27
  have hw2 := HW2.out
  obtain ⟨d0, d1, d2, d3, d4, d5, d6⟩ := C7.out w2 (Below.refl _ _)
  go_wp2
  clear hw2 d0 d1 d2 d3 d4 d5 d6
  go_loopw [5, 6] (fun u i wr => ∃ (k : Nat) (M : List Lp), k ≤ n ∧ i = .int .i64 k ∧ Hid (OwnM wr w2.heap.size u M) ∧ Hid (M.map (·.1) = F k) ∧ Hid (Below w2.heap.size w2 wr)) (fun _ i _ => n - (intOf i).toNat)
  case atStart => exact ⟨0, [], by omega, rfl, Lib.hid (OwnM.nil _ _), Lib.hid (by rw [HF0.out]; rfl), Lib.hid (Below.refl _ _)⟩
  case round =>
    obtain ⟨k, M, hk, rfl, HO, HM, HB⟩ := hrel
    have hsz := HB.out.size
    obtain ⟨d0, d1, d2, d3, d4, d5, d6⟩ := C7.out wr HB.out
    obtain ⟨p0, p1, p2, p3, p4, p5, p6, p7, p8, p9, p10⟩ := C11.out wr HB.out
    by_cases hlt : k < n
    · obtain ⟨rfl, hbw⟩ := ha (by omega)
      obtain ⟨p, hpx⟩ : ∃ p, ls[k]? = some p := ⟨_, List.getElem?_eq_getElem (by rw [HN.out]; exact hlt)⟩
      obtain ⟨c0, c1⟩ := HC.out k p hpx
      have hpm := List.mem_of_getElem? hpx
      have HPI := HI.out p hpm
      have hpn := HP.out p hpm
      rw [← HB.out.cell (p := ⟨b, o + k * 2, none⟩) hbw] at c0
      rw [← HB.out.cell (p := ⟨b, o + k * 2 + 1, none⟩) hbw] at c1
      obtain ⟨pa, pn, pc, hu⟩ := HoldT.form2 HPI
      rw [hu] at c1
      obtain ⟨X, hX⟩ : ∃ X : ByteArray, bsT p.1.1 = X := ⟨_, rfl⟩
      have hXL : X.data.toList = p.1.1 := by rw [← hX]
      rw [hX] at c0
      have SPx : Hid (∀ V, Below wr.heap.size wr V → Calls Tryz.prog 55 #[.agg #[.slice ra rn rc, .slice da dn dc, .slice oa on oc, .slice aa an ac, .slice ia im ic, .slice fa fn fc, .slice (some ⟨b, o, none⟩) n c], .agg #[.string NM, .string VR, .slice pda dpn pdc, .slice pca cnn pcc, .slice pra rpn prc, .slice pfa fln pfc, .slice pia itn pic, .slice pa0 sn0 pc0, .slice pa1 sn1 pc1, .slice pa2 sn2 pc2, .slice pa3 sn3 pc3]] V fun e w' => (∃ a c, e = .returned (.slice a ats.length c) ∧ HoldT w' (.slice a ats.length c) ats) ∧ Below V.heap.size V w') := Lib.hid (fun V hb => by
        refine (PL.out V (HB.out.trans (hb.mono HB.out.size))).mono (fun e w' h => ?_)
        obtain ⟨r, h1, h2, h3⟩ := h
        obtain ⟨a, n9, c9, hr, hrl⟩ := ownT_len h2
        subst hr hrl
        exact ⟨⟨a, c9, h1, h2.holds⟩, h3⟩)
      obtain ⟨LL, hLL⟩ : ∃ q, locL ds p.1.1 p.1.2 ats = q := ⟨_, rfl⟩
      have hll : LL.length ≤ 90000 := by rw [← hLL]; exact Nat.le_trans (loc_len _ _ _ _) hpn
      have LOx : Hid (∀ V a8 c8, Below wr.heap.size wr V → HoldT V (.slice a8 ats.length c8) ats → Calls Tryz.prog 50 #[.agg #[.slice ra rn rc, .slice da dn dc, .slice oa on oc, .slice aa an ac, .slice ia im ic, .slice fa fn fc, .slice (some ⟨b, o, none⟩) n c], .agg #[.string X, .slice pa pn pc], .slice a8 ats.length c8] V fun e w' => (∃ a2 c2, e = .returned (.slice a2 LL.length c2) ∧ OwnT w' wr.heap.size (.slice a2 LL.length c2) LL) ∧ Below V.heap.size V w') := Lib.hid (fun V a8 c8 hb h => by
        have := LO.out V X (.slice pa pn pc) (.slice a8 ats.length c8) p.1.2 (HB.out.trans (hb.mono HB.out.size)) hpn (by rw [← hu]; exact HPI.on (HB.out.trans (hb.mono HB.out.size))) h
        rw [hXL, hLL] at this
        refine this.mono (fun e w' h => ?_)
        obtain ⟨r, h1, h2, h3⟩ := h
        obtain ⟨a9, n9, c9, hr, hrl⟩ := ownT_len h2
        subst hr hrl
        exact ⟨⟨a9, c9, h1, h2.mono hb.size⟩, h3⟩)
      obtain ⟨htk, hlen⟩ := HTK.out k p hpx
      have hML : M.length ≤ 90000 := by have := congrArg List.length HM.out; rw [List.length_map] at this; omega
      rw [hLL] at htk
      obtain ⟨z, hz⟩ : ∃ z, idxGxT ls (nameIs p.1.1) = z := ⟨_, rfl⟩
      have he := eqT X NM
      rw [hXL, HNM.out] at he
      have hlb : losB nm rp ls k p = (decide (z = (k : Int)) && !decide (p.1.1 = nm) && decide (p.1.1 ∈ rp)) := by unfold losB; rw [hz]
      rw [hlb] at htk
      have FIx : Hid (∀ V, Below wr.heap.size wr V → Calls Tryz.prog 58 #[.slice (some ⟨b, o, none⟩) n c, .string X] V fun e w' => e = .returned (.int .i64 z) ∧ V = w') := Lib.hid (fun V hb => by
        have := FI.out V X (HB.out.trans (hb.mono HB.out.size))
        rw [hXL, hz] at this; exact this)
      have HAx : Hid (∀ V, Below wr.heap.size wr V → Calls Tryz.prog 31 #[.slice pra rpn prc, .string X] V fun e w' => e = .returned (.bool (decide (p.1.1 ∈ rp))) ∧ V = w') := Lib.hid (fun V hb => by
        have := CT.out V X (HB.out.trans (hb.mono HB.out.size))
        rw [hXL] at this; exact this)
      obtain ⟨q1, hq1⟩ : ∃ q, decide (z = (k : Int)) = q := ⟨_, rfl⟩
      obtain ⟨q2, hq2⟩ : ∃ q, decide (p.1.1 = nm) = q := ⟨_, rfl⟩
      obtain ⟨q3, hq3⟩ : ∃ q, decide (p.1.1 ∈ rp) = q := ⟨_, rfl⟩
      rw [hq1, hq2, hq3] at htk
      rw [hq2] at he
      rw [hq3] at HAx
      have hzk : (z == (k : Int)) = q1 := by rw [← hq1]; cases hd : decide (z = (k : Int)) <;> simp_all
      have HTK1 := Lib.hid htk
      have HXP := Lib.hid (show bsT (p.1.1, LL).1 = X from hX)
      have C11x : Hid (∀ V, Below wr.heap.size wr V → V.cell? ⟨w.heap.size + 1, 0, none⟩ = some (.string NM) ∧ V.cell? ⟨w.heap.size + 1, 4, none⟩ = some (.slice pra rpn prc) ∧ V.cell? ⟨w.heap.size, 6, none⟩ = some (.slice (some ⟨b, o, none⟩) n c)) := Lib.hid (fun V hb => by
        have g := C11.out V (HB.out.trans (hb.mono HB.out.size))
        have g7 := C7.out V (HB.out.trans (hb.mono HB.out.size))
        exact ⟨g.1, g.2.2.2.2.1, g7.2.2.2.2.2.2⟩)
      have hNO : Hid (q1 = false ∨ q2 = true ∨ q3 = false ∨ ¬ 0 < LL.length → F (k + 1) = F k) := Lib.hid (fun h => by rw [HTK1.out]; rcases h with rfl | rfl | rfl | h <;> simp [*])
      have hYES : Hid (q1 = true → q2 = false → q3 = true → 0 < LL.length → F (k + 1) = F k ++ [(p.1.1, LL)]) := Lib.hid (fun h1 h2 h3 h4 => by rw [HTK1.out]; simp [h1, h2, h3, h4])
      obtain ⟨PN, hPN⟩ : ∃ q, p.1.1 = q := ⟨_, rfl⟩
      rw [hPN] at hYES HXP
      have i0' : (0 : Int) ≤ (k : Int) := by omega
      have i1' : (k : Int) < (n : Int) := by omega
      have hs := And.intro d0 (And.intro d1 (And.intro d2 (And.intro d3 (And.intro d4 (And.intro d5 (And.intro d6 (And.intro p0 (And.intro p1 (And.intro p2 (And.intro p3 (And.intro p4 (And.intro p5 (And.intro p6 (And.intro p7 (And.intro p8 (And.intro p9 (And.intro p10 (And.intro c0 (And.intro c1 (Below.refl wr.heap.size wr))))))))))))))))))))
      clear hlb htk hq1 hq2 hq3 hz hu hX hXL hpx hpm hlen hLL hPN hpn HPI
      go_wp2
      have BE := fun (V : World) (h : V.cell? ⟨w.heap.size, 0, none⟩ = some (.slice ra rn rc) ∧ V.cell? ⟨w.heap.size, 1, none⟩ = some (.slice da dn dc) ∧ V.cell? ⟨w.heap.size, 2, none⟩ = some (.slice oa on oc) ∧ V.cell? ⟨w.heap.size, 3, none⟩ = some (.slice aa an ac) ∧ V.cell? ⟨w.heap.size, 4, none⟩ = some (.slice ia im ic) ∧ V.cell? ⟨w.heap.size, 5, none⟩ = some (.slice fa fn fc) ∧ V.cell? ⟨w.heap.size, 6, none⟩ = some (.slice (some ⟨b, o, none⟩) n c) ∧ V.cell? ⟨w.heap.size + 1, 0, none⟩ = some (.string NM) ∧ V.cell? ⟨w.heap.size + 1, 1, none⟩ = some (.string VR) ∧ V.cell? ⟨w.heap.size + 1, 2, none⟩ = some (.slice pda dpn pdc) ∧ V.cell? ⟨w.heap.size + 1, 3, none⟩ = some (.slice pca cnn pcc) ∧ V.cell? ⟨w.heap.size + 1, 4, none⟩ = some (.slice pra rpn prc) ∧ V.cell? ⟨w.heap.size + 1, 5, none⟩ = some (.slice pfa fln pfc) ∧ V.cell? ⟨w.heap.size + 1, 6, none⟩ = some (.slice pia itn pic) ∧ V.cell? ⟨w.heap.size + 1, 7, none⟩ = some (.slice pa0 sn0 pc0) ∧ V.cell? ⟨w.heap.size + 1, 8, none⟩ = some (.slice pa1 sn1 pc1) ∧ V.cell? ⟨w.heap.size + 1, 9, none⟩ = some (.slice pa2 sn2 pc2) ∧ V.cell? ⟨w.heap.size + 1, 10, none⟩ = some (.slice pa3 sn3 pc3) ∧ V.cell? ⟨b, o + k * 2, none⟩ = some (.string X) ∧ V.cell? ⟨b, o + k * 2 + 1, none⟩ = some (.slice pa pn pc) ∧ Below wr.heap.size wr V) => AtF.be (w := wr) (l := [(⟨w.heap.size, 0, none⟩, .slice ra rn rc), (⟨w.heap.size, 1, none⟩, .slice da dn dc), (⟨w.heap.size, 2, none⟩, .slice oa on oc), (⟨w.heap.size, 3, none⟩, .slice aa an ac), (⟨w.heap.size, 4, none⟩, .slice ia im ic), (⟨w.heap.size, 5, none⟩, .slice fa fn fc), (⟨w.heap.size, 6, none⟩, .slice (some ⟨b, o, none⟩) n c), (⟨w.heap.size + 1, 0, none⟩, .string NM), (⟨w.heap.size + 1, 1, none⟩, .string VR), (⟨w.heap.size + 1, 2, none⟩, .slice pda dpn pdc), (⟨w.heap.size + 1, 3, none⟩, .slice pca cnn pcc), (⟨w.heap.size + 1, 4, none⟩, .slice pra rpn prc), (⟨w.heap.size + 1, 5, none⟩, .slice pfa fln pfc), (⟨w.heap.size + 1, 6, none⟩, .slice pia itn pic), (⟨w.heap.size + 1, 7, none⟩, .slice pa0 sn0 pc0), (⟨w.heap.size + 1, 8, none⟩, .slice pa1 sn1 pc1), (⟨w.heap.size + 1, 9, none⟩, .slice pa2 sn2 pc2), (⟨w.heap.size + 1, 10, none⟩, .slice pa3 sn3 pc3), (⟨b, o + k * 2, none⟩, .string X), (⟨b, o + k * 2 + 1, none⟩, .slice pa pn pc)]) h
      refine wp_region_held_drew (S := (fun V => V.cell? ⟨w.heap.size, 0, none⟩ = some (.slice ra rn rc) ∧ V.cell? ⟨w.heap.size, 1, none⟩ = some (.slice da dn dc) ∧ V.cell? ⟨w.heap.size, 2, none⟩ = some (.slice oa on oc) ∧ V.cell? ⟨w.heap.size, 3, none⟩ = some (.slice aa an ac) ∧ V.cell? ⟨w.heap.size, 4, none⟩ = some (.slice ia im ic) ∧ V.cell? ⟨w.heap.size, 5, none⟩ = some (.slice fa fn fc) ∧ V.cell? ⟨w.heap.size, 6, none⟩ = some (.slice (some ⟨b, o, none⟩) n c) ∧ V.cell? ⟨w.heap.size + 1, 0, none⟩ = some (.string NM) ∧ V.cell? ⟨w.heap.size + 1, 1, none⟩ = some (.string VR) ∧ V.cell? ⟨w.heap.size + 1, 2, none⟩ = some (.slice pda dpn pdc) ∧ V.cell? ⟨w.heap.size + 1, 3, none⟩ = some (.slice pca cnn pcc) ∧ V.cell? ⟨w.heap.size + 1, 4, none⟩ = some (.slice pra rpn prc) ∧ V.cell? ⟨w.heap.size + 1, 5, none⟩ = some (.slice pfa fln pfc) ∧ V.cell? ⟨w.heap.size + 1, 6, none⟩ = some (.slice pia itn pic) ∧ V.cell? ⟨w.heap.size + 1, 7, none⟩ = some (.slice pa0 sn0 pc0) ∧ V.cell? ⟨w.heap.size + 1, 8, none⟩ = some (.slice pa1 sn1 pc1) ∧ V.cell? ⟨w.heap.size + 1, 9, none⟩ = some (.slice pa2 sn2 pc2) ∧ V.cell? ⟨w.heap.size + 1, 10, none⟩ = some (.slice pa3 sn3 pc3) ∧ V.cell? ⟨b, o + k * 2, none⟩ = some (.string X) ∧ V.cell? ⟨b, o + k * 2 + 1, none⟩ = some (.slice pa pn pc) ∧ Below wr.heap.size wr V)) (by kernel_rfl) ?_ (fun hHeld => ?_)
      · (try dsimp only); (first | assumption | exact hs | exact AtF.dr (w := wr) (l := [(⟨w.heap.size, 0, none⟩, .slice ra rn rc), (⟨w.heap.size, 1, none⟩, .slice da dn dc), (⟨w.heap.size, 2, none⟩, .slice oa on oc), (⟨w.heap.size, 3, none⟩, .slice aa an ac), (⟨w.heap.size, 4, none⟩, .slice ia im ic), (⟨w.heap.size, 5, none⟩, .slice fa fn fc), (⟨w.heap.size, 6, none⟩, .slice (some ⟨b, o, none⟩) n c), (⟨w.heap.size + 1, 0, none⟩, .string NM), (⟨w.heap.size + 1, 1, none⟩, .string VR), (⟨w.heap.size + 1, 2, none⟩, .slice pda dpn pdc), (⟨w.heap.size + 1, 3, none⟩, .slice pca cnn pcc), (⟨w.heap.size + 1, 4, none⟩, .slice pra rpn prc), (⟨w.heap.size + 1, 5, none⟩, .slice pfa fln pfc), (⟨w.heap.size + 1, 6, none⟩, .slice pia itn pic), (⟨w.heap.size + 1, 7, none⟩, .slice pa0 sn0 pc0), (⟨w.heap.size + 1, 8, none⟩, .slice pa1 sn1 pc1), (⟨w.heap.size + 1, 9, none⟩, .slice pa2 sn2 pc2), (⟨w.heap.size + 1, 10, none⟩, .slice pa3 sn3 pc3), (⟨b, o + k * 2, none⟩, .string X), (⟨b, o + k * 2 + 1, none⟩, .slice pa pn pc)]) hs | exact AtF.dr (w := wr) (l := [(⟨w.heap.size, 0, none⟩, .slice ra rn rc), (⟨w.heap.size, 1, none⟩, .slice da dn dc), (⟨w.heap.size, 2, none⟩, .slice oa on oc), (⟨w.heap.size, 3, none⟩, .slice aa an ac), (⟨w.heap.size, 4, none⟩, .slice ia im ic), (⟨w.heap.size, 5, none⟩, .slice fa fn fc), (⟨w.heap.size, 6, none⟩, .slice (some ⟨b, o, none⟩) n c), (⟨w.heap.size + 1, 0, none⟩, .string NM), (⟨w.heap.size + 1, 1, none⟩, .string VR), (⟨w.heap.size + 1, 2, none⟩, .slice pda dpn pdc), (⟨w.heap.size + 1, 3, none⟩, .slice pca cnn pcc), (⟨w.heap.size + 1, 4, none⟩, .slice pra rpn prc), (⟨w.heap.size + 1, 5, none⟩, .slice pfa fln pfc), (⟨w.heap.size + 1, 6, none⟩, .slice pia itn pic), (⟨w.heap.size + 1, 7, none⟩, .slice pa0 sn0 pc0), (⟨w.heap.size + 1, 8, none⟩, .slice pa1 sn1 pc1), (⟨w.heap.size + 1, 9, none⟩, .slice pa2 sn2 pc2), (⟨w.heap.size + 1, 10, none⟩, .slice pa3 sn3 pc3), (⟨b, o + k * 2, none⟩, .string X), (⟨b, o + k * 2 + 1, none⟩, .slice pa pn pc)]) (by assumption) | exact AtF.on (w := wr) (l := [(⟨w.heap.size, 0, none⟩, .slice ra rn rc), (⟨w.heap.size, 1, none⟩, .slice da dn dc), (⟨w.heap.size, 2, none⟩, .slice oa on oc), (⟨w.heap.size, 3, none⟩, .slice aa an ac), (⟨w.heap.size, 4, none⟩, .slice ia im ic), (⟨w.heap.size, 5, none⟩, .slice fa fn fc), (⟨w.heap.size, 6, none⟩, .slice (some ⟨b, o, none⟩) n c), (⟨w.heap.size + 1, 0, none⟩, .string NM), (⟨w.heap.size + 1, 1, none⟩, .string VR), (⟨w.heap.size + 1, 2, none⟩, .slice pda dpn pdc), (⟨w.heap.size + 1, 3, none⟩, .slice pca cnn pcc), (⟨w.heap.size + 1, 4, none⟩, .slice pra rpn prc), (⟨w.heap.size + 1, 5, none⟩, .slice pfa fln pfc), (⟨w.heap.size + 1, 6, none⟩, .slice pia itn pic), (⟨w.heap.size + 1, 7, none⟩, .slice pa0 sn0 pc0), (⟨w.heap.size + 1, 8, none⟩, .slice pa1 sn1 pc1), (⟨w.heap.size + 1, 9, none⟩, .slice pa2 sn2 pc2), (⟨w.heap.size + 1, 10, none⟩, .slice pa3 sn3 pc3), (⟨b, o + k * 2, none⟩, .string X), (⟨b, o + k * 2 + 1, none⟩, .slice pa pn pc)]) (by assumption) (by assumption) | exact AtF.al (w := wr) (l := [(⟨w.heap.size, 0, none⟩, .slice ra rn rc), (⟨w.heap.size, 1, none⟩, .slice da dn dc), (⟨w.heap.size, 2, none⟩, .slice oa on oc), (⟨w.heap.size, 3, none⟩, .slice aa an ac), (⟨w.heap.size, 4, none⟩, .slice ia im ic), (⟨w.heap.size, 5, none⟩, .slice fa fn fc), (⟨w.heap.size, 6, none⟩, .slice (some ⟨b, o, none⟩) n c), (⟨w.heap.size + 1, 0, none⟩, .string NM), (⟨w.heap.size + 1, 1, none⟩, .string VR), (⟨w.heap.size + 1, 2, none⟩, .slice pda dpn pdc), (⟨w.heap.size + 1, 3, none⟩, .slice pca cnn pcc), (⟨w.heap.size + 1, 4, none⟩, .slice pra rpn prc), (⟨w.heap.size + 1, 5, none⟩, .slice pfa fln pfc), (⟨w.heap.size + 1, 6, none⟩, .slice pia itn pic), (⟨w.heap.size + 1, 7, none⟩, .slice pa0 sn0 pc0), (⟨w.heap.size + 1, 8, none⟩, .slice pa1 sn1 pc1), (⟨w.heap.size + 1, 9, none⟩, .slice pa2 sn2 pc2), (⟨w.heap.size + 1, 10, none⟩, .slice pa3 sn3 pc3), (⟨b, o + k * 2, none⟩, .string X), (⟨b, o + k * 2 + 1, none⟩, .slice pa pn pc)]) (by assumption) _ | exact AtF.ald (w := wr) (l := [(⟨w.heap.size, 0, none⟩, .slice ra rn rc), (⟨w.heap.size, 1, none⟩, .slice da dn dc), (⟨w.heap.size, 2, none⟩, .slice oa on oc), (⟨w.heap.size, 3, none⟩, .slice aa an ac), (⟨w.heap.size, 4, none⟩, .slice ia im ic), (⟨w.heap.size, 5, none⟩, .slice fa fn fc), (⟨w.heap.size, 6, none⟩, .slice (some ⟨b, o, none⟩) n c), (⟨w.heap.size + 1, 0, none⟩, .string NM), (⟨w.heap.size + 1, 1, none⟩, .string VR), (⟨w.heap.size + 1, 2, none⟩, .slice pda dpn pdc), (⟨w.heap.size + 1, 3, none⟩, .slice pca cnn pcc), (⟨w.heap.size + 1, 4, none⟩, .slice pra rpn prc), (⟨w.heap.size + 1, 5, none⟩, .slice pfa fln pfc), (⟨w.heap.size + 1, 6, none⟩, .slice pia itn pic), (⟨w.heap.size + 1, 7, none⟩, .slice pa0 sn0 pc0), (⟨w.heap.size + 1, 8, none⟩, .slice pa1 sn1 pc1), (⟨w.heap.size + 1, 9, none⟩, .slice pa2 sn2 pc2), (⟨w.heap.size + 1, 10, none⟩, .slice pa3 sn3 pc3), (⟨b, o + k * 2, none⟩, .string X), (⟨b, o + k * 2 + 1, none⟩, .slice pa pn pc)]) (by assumption) _ | exact AtF.al (w := wr) (l := [(⟨w.heap.size, 0, none⟩, .slice ra rn rc), (⟨w.heap.size, 1, none⟩, .slice da dn dc), (⟨w.heap.size, 2, none⟩, .slice oa on oc), (⟨w.heap.size, 3, none⟩, .slice aa an ac), (⟨w.heap.size, 4, none⟩, .slice ia im ic), (⟨w.heap.size, 5, none⟩, .slice fa fn fc), (⟨w.heap.size, 6, none⟩, .slice (some ⟨b, o, none⟩) n c), (⟨w.heap.size + 1, 0, none⟩, .string NM), (⟨w.heap.size + 1, 1, none⟩, .string VR), (⟨w.heap.size + 1, 2, none⟩, .slice pda dpn pdc), (⟨w.heap.size + 1, 3, none⟩, .slice pca cnn pcc), (⟨w.heap.size + 1, 4, none⟩, .slice pra rpn prc), (⟨w.heap.size + 1, 5, none⟩, .slice pfa fln pfc), (⟨w.heap.size + 1, 6, none⟩, .slice pia itn pic), (⟨w.heap.size + 1, 7, none⟩, .slice pa0 sn0 pc0), (⟨w.heap.size + 1, 8, none⟩, .slice pa1 sn1 pc1), (⟨w.heap.size + 1, 9, none⟩, .slice pa2 sn2 pc2), (⟨w.heap.size + 1, 10, none⟩, .slice pa3 sn3 pc3), (⟨b, o + k * 2, none⟩, .string X), (⟨b, o + k * 2 + 1, none⟩, .slice pa pn pc)]) hs _ | exact AtF.ald (w := wr) (l := [(⟨w.heap.size, 0, none⟩, .slice ra rn rc), (⟨w.heap.size, 1, none⟩, .slice da dn dc), (⟨w.heap.size, 2, none⟩, .slice oa on oc), (⟨w.heap.size, 3, none⟩, .slice aa an ac), (⟨w.heap.size, 4, none⟩, .slice ia im ic), (⟨w.heap.size, 5, none⟩, .slice fa fn fc), (⟨w.heap.size, 6, none⟩, .slice (some ⟨b, o, none⟩) n c), (⟨w.heap.size + 1, 0, none⟩, .string NM), (⟨w.heap.size + 1, 1, none⟩, .string VR), (⟨w.heap.size + 1, 2, none⟩, .slice pda dpn pdc), (⟨w.heap.size + 1, 3, none⟩, .slice pca cnn pcc), (⟨w.heap.size + 1, 4, none⟩, .slice pra rpn prc), (⟨w.heap.size + 1, 5, none⟩, .slice pfa fln pfc), (⟨w.heap.size + 1, 6, none⟩, .slice pia itn pic), (⟨w.heap.size + 1, 7, none⟩, .slice pa0 sn0 pc0), (⟨w.heap.size + 1, 8, none⟩, .slice pa1 sn1 pc1), (⟨w.heap.size + 1, 9, none⟩, .slice pa2 sn2 pc2), (⟨w.heap.size + 1, 10, none⟩, .slice pa3 sn3 pc3), (⟨b, o + k * 2, none⟩, .string X), (⟨b, o + k * 2 + 1, none⟩, .slice pa pn pc)]) hs _)
      refine heldY 0 22 ?_ _ rfl rfl (by kernel_rfl) (by kernel_rfl) (by kernel_rfl) (fun _ _ _ h => h) rfl (by assumption) ?_ ?_
      rotate_left
      · (intro w hSw; (try dsimp only at hSw); go_simp; (try with_reducible rfl))
      try simp only [List.setIfInBounds_toArray, List.set_cons_zero, List.set_cons_succ]
      refine heldY 1 23 ?_ _ rfl rfl (by kernel_rfl) (by kernel_rfl) (by kernel_rfl) (fun _ _ _ h => h) rfl (by assumption) ?_ ?_
      rotate_left
      · (intro w hSw; (try dsimp only at hSw); go_simp; (try with_reducible rfl))
      try simp only [List.setIfInBounds_toArray, List.set_cons_zero, List.set_cons_succ]
      refine heldY 2 24 ?_ _ rfl rfl (by kernel_rfl) (by kernel_rfl) (by kernel_rfl) (fun _ _ _ h => h) rfl (by assumption) ?_ ?_
      rotate_left
      · (intro w hSw; (try dsimp only at hSw); go_simp; (try with_reducible rfl))
      try simp only [List.setIfInBounds_toArray, List.set_cons_zero, List.set_cons_succ]
      refine heldY 3 25 ?_ _ rfl rfl (by kernel_rfl) (by kernel_rfl) (by kernel_rfl) (fun _ _ _ h => h) rfl (by assumption) ?_ ?_
      rotate_left
      · (intro w hSw; (try dsimp only at hSw); go_simp; (try with_reducible rfl))
      try simp only [List.setIfInBounds_toArray, List.set_cons_zero, List.set_cons_succ]
      refine heldY 4 26 ?_ _ rfl rfl (by kernel_rfl) (by kernel_rfl) (by kernel_rfl) (fun _ _ _ h => h) rfl (by assumption) ?_ ?_
      rotate_left
      · (intro w hSw; (try dsimp only at hSw); go_simp; (try with_reducible rfl))
      try simp only [List.setIfInBounds_toArray, List.set_cons_zero, List.set_cons_succ]
      refine heldY 5 27 ?_ _ rfl rfl (by kernel_rfl) (by kernel_rfl) (by kernel_rfl) (fun _ _ _ h => h) rfl (by assumption) ?_ ?_
      rotate_left
      · (intro w hSw; (try dsimp only at hSw); go_simp; (try with_reducible rfl))
      try simp only [List.setIfInBounds_toArray, List.set_cons_zero, List.set_cons_succ]
      refine heldY 6 28 ?_ _ rfl rfl (by kernel_rfl) (by kernel_rfl) (by kernel_rfl) (fun _ _ _ h => h) rfl (by assumption) ?_ ?_
      rotate_left
      · (intro w hSw; (try dsimp only at hSw); go_simp; (try with_reducible rfl))
      try simp only [List.setIfInBounds_toArray, List.set_cons_zero, List.set_cons_succ]
      refine heldY 7 29 ?_ _ rfl rfl (by kernel_rfl) (by kernel_rfl) (by kernel_rfl) (fun _ _ _ h => h) rfl (by assumption) ?_ ?_
      rotate_left
      · (intro w hSw; (try dsimp only at hSw); go_simp; (try with_reducible rfl))
      try simp only [List.setIfInBounds_toArray, List.set_cons_zero, List.set_cons_succ]
      refine wpAnyH_ready (rs := [8]) (by kernel_rfl) (by simp) ?_
      refine AllReadyH.cons rfl (fun K hK => ?_) AllReadyH.nil
      go_simp
      first | (go_at_call 55; (with_reducible refine (SPx.out _ (BE _ (by assumption))).mono ?_); rintro e w3 ⟨⟨a3, c3, rfl, hh3⟩, hb⟩) | (go_at_call 50; (with_reducible refine (LOx.out _ _ _ (BE _ (by assumption)) hh3).mono ?_); rintro e w4 ⟨⟨a4, c4, rfl, hh4⟩, hb⟩)
      refine hK.out _ _ ?_ (fun hHeld => ?_)
      · (try dsimp only); (first | assumption | exact hs | exact AtF.dr (w := wr) (l := [(⟨w.heap.size, 0, none⟩, .slice ra rn rc), (⟨w.heap.size, 1, none⟩, .slice da dn dc), (⟨w.heap.size, 2, none⟩, .slice oa on oc), (⟨w.heap.size, 3, none⟩, .slice aa an ac), (⟨w.heap.size, 4, none⟩, .slice ia im ic), (⟨w.heap.size, 5, none⟩, .slice fa fn fc), (⟨w.heap.size, 6, none⟩, .slice (some ⟨b, o, none⟩) n c), (⟨w.heap.size + 1, 0, none⟩, .string NM), (⟨w.heap.size + 1, 1, none⟩, .string VR), (⟨w.heap.size + 1, 2, none⟩, .slice pda dpn pdc), (⟨w.heap.size + 1, 3, none⟩, .slice pca cnn pcc), (⟨w.heap.size + 1, 4, none⟩, .slice pra rpn prc), (⟨w.heap.size + 1, 5, none⟩, .slice pfa fln pfc), (⟨w.heap.size + 1, 6, none⟩, .slice pia itn pic), (⟨w.heap.size + 1, 7, none⟩, .slice pa0 sn0 pc0), (⟨w.heap.size + 1, 8, none⟩, .slice pa1 sn1 pc1), (⟨w.heap.size + 1, 9, none⟩, .slice pa2 sn2 pc2), (⟨w.heap.size + 1, 10, none⟩, .slice pa3 sn3 pc3), (⟨b, o + k * 2, none⟩, .string X), (⟨b, o + k * 2 + 1, none⟩, .slice pa pn pc)]) hs | exact AtF.dr (w := wr) (l := [(⟨w.heap.size, 0, none⟩, .slice ra rn rc), (⟨w.heap.size, 1, none⟩, .slice da dn dc), (⟨w.heap.size, 2, none⟩, .slice oa on oc), (⟨w.heap.size, 3, none⟩, .slice aa an ac), (⟨w.heap.size, 4, none⟩, .slice ia im ic), (⟨w.heap.size, 5, none⟩, .slice fa fn fc), (⟨w.heap.size, 6, none⟩, .slice (some ⟨b, o, none⟩) n c), (⟨w.heap.size + 1, 0, none⟩, .string NM), (⟨w.heap.size + 1, 1, none⟩, .string VR), (⟨w.heap.size + 1, 2, none⟩, .slice pda dpn pdc), (⟨w.heap.size + 1, 3, none⟩, .slice pca cnn pcc), (⟨w.heap.size + 1, 4, none⟩, .slice pra rpn prc), (⟨w.heap.size + 1, 5, none⟩, .slice pfa fln pfc), (⟨w.heap.size + 1, 6, none⟩, .slice pia itn pic), (⟨w.heap.size + 1, 7, none⟩, .slice pa0 sn0 pc0), (⟨w.heap.size + 1, 8, none⟩, .slice pa1 sn1 pc1), (⟨w.heap.size + 1, 9, none⟩, .slice pa2 sn2 pc2), (⟨w.heap.size + 1, 10, none⟩, .slice pa3 sn3 pc3), (⟨b, o + k * 2, none⟩, .string X), (⟨b, o + k * 2 + 1, none⟩, .slice pa pn pc)]) (by assumption) | exact AtF.on (w := wr) (l := [(⟨w.heap.size, 0, none⟩, .slice ra rn rc), (⟨w.heap.size, 1, none⟩, .slice da dn dc), (⟨w.heap.size, 2, none⟩, .slice oa on oc), (⟨w.heap.size, 3, none⟩, .slice aa an ac), (⟨w.heap.size, 4, none⟩, .slice ia im ic), (⟨w.heap.size, 5, none⟩, .slice fa fn fc), (⟨w.heap.size, 6, none⟩, .slice (some ⟨b, o, none⟩) n c), (⟨w.heap.size + 1, 0, none⟩, .string NM), (⟨w.heap.size + 1, 1, none⟩, .string VR), (⟨w.heap.size + 1, 2, none⟩, .slice pda dpn pdc), (⟨w.heap.size + 1, 3, none⟩, .slice pca cnn pcc), (⟨w.heap.size + 1, 4, none⟩, .slice pra rpn prc), (⟨w.heap.size + 1, 5, none⟩, .slice pfa fln pfc), (⟨w.heap.size + 1, 6, none⟩, .slice pia itn pic), (⟨w.heap.size + 1, 7, none⟩, .slice pa0 sn0 pc0), (⟨w.heap.size + 1, 8, none⟩, .slice pa1 sn1 pc1), (⟨w.heap.size + 1, 9, none⟩, .slice pa2 sn2 pc2), (⟨w.heap.size + 1, 10, none⟩, .slice pa3 sn3 pc3), (⟨b, o + k * 2, none⟩, .string X), (⟨b, o + k * 2 + 1, none⟩, .slice pa pn pc)]) (by assumption) (by assumption) | exact AtF.al (w := wr) (l := [(⟨w.heap.size, 0, none⟩, .slice ra rn rc), (⟨w.heap.size, 1, none⟩, .slice da dn dc), (⟨w.heap.size, 2, none⟩, .slice oa on oc), (⟨w.heap.size, 3, none⟩, .slice aa an ac), (⟨w.heap.size, 4, none⟩, .slice ia im ic), (⟨w.heap.size, 5, none⟩, .slice fa fn fc), (⟨w.heap.size, 6, none⟩, .slice (some ⟨b, o, none⟩) n c), (⟨w.heap.size + 1, 0, none⟩, .string NM), (⟨w.heap.size + 1, 1, none⟩, .string VR), (⟨w.heap.size + 1, 2, none⟩, .slice pda dpn pdc), (⟨w.heap.size + 1, 3, none⟩, .slice pca cnn pcc), (⟨w.heap.size + 1, 4, none⟩, .slice pra rpn prc), (⟨w.heap.size + 1, 5, none⟩, .slice pfa fln pfc), (⟨w.heap.size + 1, 6, none⟩, .slice pia itn pic), (⟨w.heap.size + 1, 7, none⟩, .slice pa0 sn0 pc0), (⟨w.heap.size + 1, 8, none⟩, .slice pa1 sn1 pc1), (⟨w.heap.size + 1, 9, none⟩, .slice pa2 sn2 pc2), (⟨w.heap.size + 1, 10, none⟩, .slice pa3 sn3 pc3), (⟨b, o + k * 2, none⟩, .string X), (⟨b, o + k * 2 + 1, none⟩, .slice pa pn pc)]) (by assumption) _ | exact AtF.ald (w := wr) (l := [(⟨w.heap.size, 0, none⟩, .slice ra rn rc), (⟨w.heap.size, 1, none⟩, .slice da dn dc), (⟨w.heap.size, 2, none⟩, .slice oa on oc), (⟨w.heap.size, 3, none⟩, .slice aa an ac), (⟨w.heap.size, 4, none⟩, .slice ia im ic), (⟨w.heap.size, 5, none⟩, .slice fa fn fc), (⟨w.heap.size, 6, none⟩, .slice (some ⟨b, o, none⟩) n c), (⟨w.heap.size + 1, 0, none⟩, .string NM), (⟨w.heap.size + 1, 1, none⟩, .string VR), (⟨w.heap.size + 1, 2, none⟩, .slice pda dpn pdc), (⟨w.heap.size + 1, 3, none⟩, .slice pca cnn pcc), (⟨w.heap.size + 1, 4, none⟩, .slice pra rpn prc), (⟨w.heap.size + 1, 5, none⟩, .slice pfa fln pfc), (⟨w.heap.size + 1, 6, none⟩, .slice pia itn pic), (⟨w.heap.size + 1, 7, none⟩, .slice pa0 sn0 pc0), (⟨w.heap.size + 1, 8, none⟩, .slice pa1 sn1 pc1), (⟨w.heap.size + 1, 9, none⟩, .slice pa2 sn2 pc2), (⟨w.heap.size + 1, 10, none⟩, .slice pa3 sn3 pc3), (⟨b, o + k * 2, none⟩, .string X), (⟨b, o + k * 2 + 1, none⟩, .slice pa pn pc)]) (by assumption) _ | exact AtF.al (w := wr) (l := [(⟨w.heap.size, 0, none⟩, .slice ra rn rc), (⟨w.heap.size, 1, none⟩, .slice da dn dc), (⟨w.heap.size, 2, none⟩, .slice oa on oc), (⟨w.heap.size, 3, none⟩, .slice aa an ac), (⟨w.heap.size, 4, none⟩, .slice ia im ic), (⟨w.heap.size, 5, none⟩, .slice fa fn fc), (⟨w.heap.size, 6, none⟩, .slice (some ⟨b, o, none⟩) n c), (⟨w.heap.size + 1, 0, none⟩, .string NM), (⟨w.heap.size + 1, 1, none⟩, .string VR), (⟨w.heap.size + 1, 2, none⟩, .slice pda dpn pdc), (⟨w.heap.size + 1, 3, none⟩, .slice pca cnn pcc), (⟨w.heap.size + 1, 4, none⟩, .slice pra rpn prc), (⟨w.heap.size + 1, 5, none⟩, .slice pfa fln pfc), (⟨w.heap.size + 1, 6, none⟩, .slice pia itn pic), (⟨w.heap.size + 1, 7, none⟩, .slice pa0 sn0 pc0), (⟨w.heap.size + 1, 8, none⟩, .slice pa1 sn1 pc1), (⟨w.heap.size + 1, 9, none⟩, .slice pa2 sn2 pc2), (⟨w.heap.size + 1, 10, none⟩, .slice pa3 sn3 pc3), (⟨b, o + k * 2, none⟩, .string X), (⟨b, o + k * 2 + 1, none⟩, .slice pa pn pc)]) hs _ | exact AtF.ald (w := wr) (l := [(⟨w.heap.size, 0, none⟩, .slice ra rn rc), (⟨w.heap.size, 1, none⟩, .slice da dn dc), (⟨w.heap.size, 2, none⟩, .slice oa on oc), (⟨w.heap.size, 3, none⟩, .slice aa an ac), (⟨w.heap.size, 4, none⟩, .slice ia im ic), (⟨w.heap.size, 5, none⟩, .slice fa fn fc), (⟨w.heap.size, 6, none⟩, .slice (some ⟨b, o, none⟩) n c), (⟨w.heap.size + 1, 0, none⟩, .string NM), (⟨w.heap.size + 1, 1, none⟩, .string VR), (⟨w.heap.size + 1, 2, none⟩, .slice pda dpn pdc), (⟨w.heap.size + 1, 3, none⟩, .slice pca cnn pcc), (⟨w.heap.size + 1, 4, none⟩, .slice pra rpn prc), (⟨w.heap.size + 1, 5, none⟩, .slice pfa fln pfc), (⟨w.heap.size + 1, 6, none⟩, .slice pia itn pic), (⟨w.heap.size + 1, 7, none⟩, .slice pa0 sn0 pc0), (⟨w.heap.size + 1, 8, none⟩, .slice pa1 sn1 pc1), (⟨w.heap.size + 1, 9, none⟩, .slice pa2 sn2 pc2), (⟨w.heap.size + 1, 10, none⟩, .slice pa3 sn3 pc3), (⟨b, o + k * 2, none⟩, .string X), (⟨b, o + k * 2 + 1, none⟩, .slice pa pn pc)]) hs _)
      clear hK K
      try simp only [Act.put, List.setIfInBounds_toArray, List.set_cons_zero, List.set_cons_succ]
      refine wpAnyH_ready (rs := [9]) (by kernel_rfl) (by simp) ?_
      refine AllReadyH.cons rfl (fun K hK => ?_) AllReadyH.nil
      go_simp
      first | (go_at_call 55; (with_reducible refine (SPx.out _ (BE _ (by assumption))).mono ?_); rintro e w3 ⟨⟨a3, c3, rfl, hh3⟩, hb⟩) | (go_at_call 50; (with_reducible refine (LOx.out _ _ _ (BE _ (by assumption)) hh3).mono ?_); rintro e w4 ⟨⟨a4, c4, rfl, hh4⟩, hb⟩)
      refine hK.out _ _ ?_ (fun hHeld => ?_)
      · (try dsimp only); (first | assumption | exact hs | exact AtF.dr (w := wr) (l := [(⟨w.heap.size, 0, none⟩, .slice ra rn rc), (⟨w.heap.size, 1, none⟩, .slice da dn dc), (⟨w.heap.size, 2, none⟩, .slice oa on oc), (⟨w.heap.size, 3, none⟩, .slice aa an ac), (⟨w.heap.size, 4, none⟩, .slice ia im ic), (⟨w.heap.size, 5, none⟩, .slice fa fn fc), (⟨w.heap.size, 6, none⟩, .slice (some ⟨b, o, none⟩) n c), (⟨w.heap.size + 1, 0, none⟩, .string NM), (⟨w.heap.size + 1, 1, none⟩, .string VR), (⟨w.heap.size + 1, 2, none⟩, .slice pda dpn pdc), (⟨w.heap.size + 1, 3, none⟩, .slice pca cnn pcc), (⟨w.heap.size + 1, 4, none⟩, .slice pra rpn prc), (⟨w.heap.size + 1, 5, none⟩, .slice pfa fln pfc), (⟨w.heap.size + 1, 6, none⟩, .slice pia itn pic), (⟨w.heap.size + 1, 7, none⟩, .slice pa0 sn0 pc0), (⟨w.heap.size + 1, 8, none⟩, .slice pa1 sn1 pc1), (⟨w.heap.size + 1, 9, none⟩, .slice pa2 sn2 pc2), (⟨w.heap.size + 1, 10, none⟩, .slice pa3 sn3 pc3), (⟨b, o + k * 2, none⟩, .string X), (⟨b, o + k * 2 + 1, none⟩, .slice pa pn pc)]) hs | exact AtF.dr (w := wr) (l := [(⟨w.heap.size, 0, none⟩, .slice ra rn rc), (⟨w.heap.size, 1, none⟩, .slice da dn dc), (⟨w.heap.size, 2, none⟩, .slice oa on oc), (⟨w.heap.size, 3, none⟩, .slice aa an ac), (⟨w.heap.size, 4, none⟩, .slice ia im ic), (⟨w.heap.size, 5, none⟩, .slice fa fn fc), (⟨w.heap.size, 6, none⟩, .slice (some ⟨b, o, none⟩) n c), (⟨w.heap.size + 1, 0, none⟩, .string NM), (⟨w.heap.size + 1, 1, none⟩, .string VR), (⟨w.heap.size + 1, 2, none⟩, .slice pda dpn pdc), (⟨w.heap.size + 1, 3, none⟩, .slice pca cnn pcc), (⟨w.heap.size + 1, 4, none⟩, .slice pra rpn prc), (⟨w.heap.size + 1, 5, none⟩, .slice pfa fln pfc), (⟨w.heap.size + 1, 6, none⟩, .slice pia itn pic), (⟨w.heap.size + 1, 7, none⟩, .slice pa0 sn0 pc0), (⟨w.heap.size + 1, 8, none⟩, .slice pa1 sn1 pc1), (⟨w.heap.size + 1, 9, none⟩, .slice pa2 sn2 pc2), (⟨w.heap.size + 1, 10, none⟩, .slice pa3 sn3 pc3), (⟨b, o + k * 2, none⟩, .string X), (⟨b, o + k * 2 + 1, none⟩, .slice pa pn pc)]) (by assumption) | exact AtF.on (w := wr) (l := [(⟨w.heap.size, 0, none⟩, .slice ra rn rc), (⟨w.heap.size, 1, none⟩, .slice da dn dc), (⟨w.heap.size, 2, none⟩, .slice oa on oc), (⟨w.heap.size, 3, none⟩, .slice aa an ac), (⟨w.heap.size, 4, none⟩, .slice ia im ic), (⟨w.heap.size, 5, none⟩, .slice fa fn fc), (⟨w.heap.size, 6, none⟩, .slice (some ⟨b, o, none⟩) n c), (⟨w.heap.size + 1, 0, none⟩, .string NM), (⟨w.heap.size + 1, 1, none⟩, .string VR), (⟨w.heap.size + 1, 2, none⟩, .slice pda dpn pdc), (⟨w.heap.size + 1, 3, none⟩, .slice pca cnn pcc), (⟨w.heap.size + 1, 4, none⟩, .slice pra rpn prc), (⟨w.heap.size + 1, 5, none⟩, .slice pfa fln pfc), (⟨w.heap.size + 1, 6, none⟩, .slice pia itn pic), (⟨w.heap.size + 1, 7, none⟩, .slice pa0 sn0 pc0), (⟨w.heap.size + 1, 8, none⟩, .slice pa1 sn1 pc1), (⟨w.heap.size + 1, 9, none⟩, .slice pa2 sn2 pc2), (⟨w.heap.size + 1, 10, none⟩, .slice pa3 sn3 pc3), (⟨b, o + k * 2, none⟩, .string X), (⟨b, o + k * 2 + 1, none⟩, .slice pa pn pc)]) (by assumption) (by assumption) | exact AtF.al (w := wr) (l := [(⟨w.heap.size, 0, none⟩, .slice ra rn rc), (⟨w.heap.size, 1, none⟩, .slice da dn dc), (⟨w.heap.size, 2, none⟩, .slice oa on oc), (⟨w.heap.size, 3, none⟩, .slice aa an ac), (⟨w.heap.size, 4, none⟩, .slice ia im ic), (⟨w.heap.size, 5, none⟩, .slice fa fn fc), (⟨w.heap.size, 6, none⟩, .slice (some ⟨b, o, none⟩) n c), (⟨w.heap.size + 1, 0, none⟩, .string NM), (⟨w.heap.size + 1, 1, none⟩, .string VR), (⟨w.heap.size + 1, 2, none⟩, .slice pda dpn pdc), (⟨w.heap.size + 1, 3, none⟩, .slice pca cnn pcc), (⟨w.heap.size + 1, 4, none⟩, .slice pra rpn prc), (⟨w.heap.size + 1, 5, none⟩, .slice pfa fln pfc), (⟨w.heap.size + 1, 6, none⟩, .slice pia itn pic), (⟨w.heap.size + 1, 7, none⟩, .slice pa0 sn0 pc0), (⟨w.heap.size + 1, 8, none⟩, .slice pa1 sn1 pc1), (⟨w.heap.size + 1, 9, none⟩, .slice pa2 sn2 pc2), (⟨w.heap.size + 1, 10, none⟩, .slice pa3 sn3 pc3), (⟨b, o + k * 2, none⟩, .string X), (⟨b, o + k * 2 + 1, none⟩, .slice pa pn pc)]) (by assumption) _ | exact AtF.ald (w := wr) (l := [(⟨w.heap.size, 0, none⟩, .slice ra rn rc), (⟨w.heap.size, 1, none⟩, .slice da dn dc), (⟨w.heap.size, 2, none⟩, .slice oa on oc), (⟨w.heap.size, 3, none⟩, .slice aa an ac), (⟨w.heap.size, 4, none⟩, .slice ia im ic), (⟨w.heap.size, 5, none⟩, .slice fa fn fc), (⟨w.heap.size, 6, none⟩, .slice (some ⟨b, o, none⟩) n c), (⟨w.heap.size + 1, 0, none⟩, .string NM), (⟨w.heap.size + 1, 1, none⟩, .string VR), (⟨w.heap.size + 1, 2, none⟩, .slice pda dpn pdc), (⟨w.heap.size + 1, 3, none⟩, .slice pca cnn pcc), (⟨w.heap.size + 1, 4, none⟩, .slice pra rpn prc), (⟨w.heap.size + 1, 5, none⟩, .slice pfa fln pfc), (⟨w.heap.size + 1, 6, none⟩, .slice pia itn pic), (⟨w.heap.size + 1, 7, none⟩, .slice pa0 sn0 pc0), (⟨w.heap.size + 1, 8, none⟩, .slice pa1 sn1 pc1), (⟨w.heap.size + 1, 9, none⟩, .slice pa2 sn2 pc2), (⟨w.heap.size + 1, 10, none⟩, .slice pa3 sn3 pc3), (⟨b, o + k * 2, none⟩, .string X), (⟨b, o + k * 2 + 1, none⟩, .slice pa pn pc)]) (by assumption) _ | exact AtF.al (w := wr) (l := [(⟨w.heap.size, 0, none⟩, .slice ra rn rc), (⟨w.heap.size, 1, none⟩, .slice da dn dc), (⟨w.heap.size, 2, none⟩, .slice oa on oc), (⟨w.heap.size, 3, none⟩, .slice aa an ac), (⟨w.heap.size, 4, none⟩, .slice ia im ic), (⟨w.heap.size, 5, none⟩, .slice fa fn fc), (⟨w.heap.size, 6, none⟩, .slice (some ⟨b, o, none⟩) n c), (⟨w.heap.size + 1, 0, none⟩, .string NM), (⟨w.heap.size + 1, 1, none⟩, .string VR), (⟨w.heap.size + 1, 2, none⟩, .slice pda dpn pdc), (⟨w.heap.size + 1, 3, none⟩, .slice pca cnn pcc), (⟨w.heap.size + 1, 4, none⟩, .slice pra rpn prc), (⟨w.heap.size + 1, 5, none⟩, .slice pfa fln pfc), (⟨w.heap.size + 1, 6, none⟩, .slice pia itn pic), (⟨w.heap.size + 1, 7, none⟩, .slice pa0 sn0 pc0), (⟨w.heap.size + 1, 8, none⟩, .slice pa1 sn1 pc1), (⟨w.heap.size + 1, 9, none⟩, .slice pa2 sn2 pc2), (⟨w.heap.size + 1, 10, none⟩, .slice pa3 sn3 pc3), (⟨b, o + k * 2, none⟩, .string X), (⟨b, o + k * 2 + 1, none⟩, .slice pa pn pc)]) hs _ | exact AtF.ald (w := wr) (l := [(⟨w.heap.size, 0, none⟩, .slice ra rn rc), (⟨w.heap.size, 1, none⟩, .slice da dn dc), (⟨w.heap.size, 2, none⟩, .slice oa on oc), (⟨w.heap.size, 3, none⟩, .slice aa an ac), (⟨w.heap.size, 4, none⟩, .slice ia im ic), (⟨w.heap.size, 5, none⟩, .slice fa fn fc), (⟨w.heap.size, 6, none⟩, .slice (some ⟨b, o, none⟩) n c), (⟨w.heap.size + 1, 0, none⟩, .string NM), (⟨w.heap.size + 1, 1, none⟩, .string VR), (⟨w.heap.size + 1, 2, none⟩, .slice pda dpn pdc), (⟨w.heap.size + 1, 3, none⟩, .slice pca cnn pcc), (⟨w.heap.size + 1, 4, none⟩, .slice pra rpn prc), (⟨w.heap.size + 1, 5, none⟩, .slice pfa fln pfc), (⟨w.heap.size + 1, 6, none⟩, .slice pia itn pic), (⟨w.heap.size + 1, 7, none⟩, .slice pa0 sn0 pc0), (⟨w.heap.size + 1, 8, none⟩, .slice pa1 sn1 pc1), (⟨w.heap.size + 1, 9, none⟩, .slice pa2 sn2 pc2), (⟨w.heap.size + 1, 10, none⟩, .slice pa3 sn3 pc3), (⟨b, o + k * 2, none⟩, .string X), (⟨b, o + k * 2 + 1, none⟩, .slice pa pn pc)]) hs _)
      clear hK K
      try simp only [Act.put, List.setIfInBounds_toArray, List.set_cons_zero, List.set_cons_succ]
      refine heldY 10 8 ?_ _ rfl rfl (by kernel_rfl) (by kernel_rfl) (by kernel_rfl) (fun _ _ _ h => h) rfl (by assumption) ?_ ?_
      rotate_left
      · (intro w hSw; (try dsimp only at hSw); go_simp; (try with_reducible rfl))
      try simp only [List.setIfInBounds_toArray, List.set_cons_zero, List.set_cons_succ]
      refine wpAnyH_done (by kernel_rfl) ?_ _
      have HB4 : Hid (Below wr.heap.size wr w4) := Lib.hid (BE _ hHeld)
      have HO4 := Lib.hid (HO.out.on HB4.out)
      have HP4 : Hid (OwnT w4 w2.heap.size (.slice a4 LL.length c4) LL) := Lib.hid (OwnT.mono hh4 hsz)
      have HBB := Lib.hid (HB.out.trans (HB4.out.mono HB.out.size))
      obtain ⟨g0, g4, g6⟩ := C11x.out _ HB4.out
      have hs4 := HBB.out.size
      clear hHeld hs d0 d1 d2 d3 d4 d5 d6 p0 p1 p2 p3 p4 p5 p6 p7 p8 p9 p10 c0 c1 hh3 hh4 SPx LOx HO
      cases q2
      rotate_left
      · go_wp2
        go_roundw
        case rel => exact ⟨k + 1, M, by omega, by go_num, HO4, Lib.hid (by rw [hNO.out (by simp)]; exact HM.out), HBB⟩
        case measure => simp [intOf]; omega
      cases q3
      · go_wp2_with (go_at_call 31; (with_reducible refine (HAx.out _ HB4.out).mono ?_); rintro e w5 ⟨rfl, rfl⟩)
        go_roundw
        case rel => exact ⟨k + 1, M, by omega, by go_num, HO4, Lib.hid (by rw [hNO.out (by simp)]; exact HM.out), HBB⟩
        case measure => simp [intOf]; omega
      by_cases h0 : 0 < LL.length
      rotate_left
      · have h00 : LL.length = 0 := by omega
        have HF1 := Lib.hid (hNO.out (.inr (.inr (.inr h0))))
        rw [h00] at HP4 ⊢
        go_wp2_with (go_at_call 31; (with_reducible refine (HAx.out _ HB4.out).mono ?_); rintro e w5 ⟨rfl, rfl⟩)
        go_roundw
        case rel => exact ⟨k + 1, M, by omega, by go_num, HO4, Lib.hid (by rw [HF1.out]; exact HM.out), HBB⟩
        case measure => simp [intOf]; omega
      cases q1
      · have HF1 := Lib.hid (hNO.out (by simp))
        go_wp2_with (first
          | (go_at_call 31; (with_reducible refine (HAx.out _ HB4.out).mono ?_); rintro e w5 ⟨rfl, rfl⟩)
          | (go_at_call 58; (with_reducible refine (FIx.out _ HB4.out).mono ?_); rintro e w5 ⟨rfl, rfl⟩))
        go_roundw
        case rel => exact ⟨k + 1, M, by omega, by go_num, HO4, Lib.hid (by rw [HF1.out]; exact HM.out), HBB⟩
        case measure => simp [intOf]; omega
      · have HF1 := Lib.hid (hYES.out rfl rfl rfl h0)
        go_wp2_with (first
          | (go_at_call 31; (with_reducible refine (HAx.out _ HB4.out).mono ?_); rintro e w5 ⟨rfl, rfl⟩)
          | (go_at_call 58; (with_reducible refine (FIx.out _ HB4.out).mono ?_); rintro e w5 ⟨rfl, rfl⟩)
          | (at_builtin; refine wpList_append_own _ rfl _ _ 28 rfl w2.heap.size 63 i0 _ 2 40 Tryz.underlying28 hi hz0 hz1 hz2' rfl (by decide) _ _ _ rfl (World.ownsRow.alloc HO4.out.1 _) ⟨w4.heap.size, 0, none⟩ 1 1 [.string X, .slice a4 LL.length c4] rfl rfl ?c1 ?c2 ?c3 ?c4 ?c5 ?_))
        case c1 =>
          intro j u hj
          match j, hj with
          | 0, hj => simp at hj; subst hj; simp [Addr.add]
          | 1, hj => simp at hj; subst hj; simp [Addr.add]
        case c2 => intro u hu; simp at hu; rcases hu with rfl | rfl <;> rfl
        case c3 => unfold maxLen; omega
        case c4 => omega
        case c5 => simp; omega
        intro v' w7 hown' hgrow _
        have HO7 : Hid (OwnM w7 w2.heap.size v' (M ++ [((PN, LL), .slice a4 LL.length c4)])) := Lib.hid (OwnM.app HO4.out HP4.out HXP.out rfl hgrow (by simpa using hown'))
        have HB7 : Hid (Below w2.heap.size w2 w7) := Lib.hid (OwnC.below HBB.out HO4.out.1 hgrow (Nat.le_refl _) hs4)
        clear hown' hgrow
        go_wp2
        go_roundw
        case rel => exact ⟨k + 1, M ++ [((PN, LL), .slice a4 LL.length c4)], by omega, by go_num, HO7, Lib.hid (by rw [HF1.out, List.map_append, HM.out]; rfl), HB7⟩
        case measure => simp [intOf]; omega
    · have hkn : k = n := by omega
      subst hkn
      have HFIN := Lib.hid (show LostPost w RES (.returned _) wr from ⟨_, M, rfl, by rw [HM.out, HFE.out], HO.out.mono (by have := HZ2.out; omega), HB2.out.trans (HB.out.mono HB2.out.size)⟩)
      clear hlt
      go_wp2
      first | (go_ret; exact HFIN.out) | exact HFIN.out
end Go.Proofs.YtkcamfcjkjiijaaGreatDoor
