/-
  The reference's Conflicts: with whom a package may not be; nothing old turns.
-/
import Derived.Test.YtkcamfcjkjiijaaGreatDoorPEcCf
namespace Go.Proofs.YtkcamfcjkjiijaaGreatDoor
open Go.RowKit Go.Shelf
set_option maxRecDepth 100000 in
set_option maxHeartbeats 8000000 in
theorem against_ref (u : Value) (l : List Rl) (hl : l.length ≤ 90000) (hq : VerQ l) (nm v : ByteArray) (hv : v.size ≤ 4000) (w : World) (h : HoldQ w u l) :
    Calls Tryz.prog 46 #[u, .string nm, .string v] w fun e w' => e = .returned (.bool (fitsL l nm.data.toList v.data.toList)) ∧ Below w.heap.size w w' := by
  obtain ⟨RES, hRES⟩ : ∃ q, fitsL l nm.data.toList v.data.toList = q := ⟨_, rfl⟩
  rw [hRES]
  have HYES : Hid (∀ p ∈ l, fitsB p nm.data.toList v.data.toList = true → true = RES) := Lib.hid (fun p h g => by rw [← hRES]; exact (List.any_eq_true.2 ⟨p, h, g⟩).symm)
  have HNO : Hid ((∀ (j : Nat) p, j < l.length → l[j]? = some p → fitsB p nm.data.toList v.data.toList = false) → false = RES) := Lib.hid (fun h => by
    rw [← hRES]
    symm
    unfold fitsL
    rw [List.any_eq_false]
    intro p hp
    obtain ⟨j, hj⟩ := List.mem_iff_getElem?.1 hp
    rw [h j p (List.getElem?_eq_some_iff.1 hj).1 hj]; simp)
  have HQ := Lib.hid hq
  obtain ⟨a, c, b, o, rfl, hc, ha, hcell⟩ := h.parts
  have HC := Lib.hid hcell
  obtain ⟨n, hN⟩ : ∃ n, l.length = n := ⟨_, rfl⟩
  rw [hN] at hc ha hl HNO ⊢
  have HN := Lib.hid hN
  clear hcell hN hRES hq h
  go_enter Tryz.func46, Tryz.ntmps46
  go_wp2
  go_loopw [7] (fun i wr => ∃ (k : Nat), k ≤ n ∧ i = .int .i64 k ∧ Hid (∀ (j : Nat) p, j < k → l[j]? = some p → fitsB p nm.data.toList v.data.toList = false) ∧ Hid (Below w.heap.size w wr)) (fun i _ => n - (intOf i).toNat)
  case atStart => exact ⟨0, by omega, rfl, Lib.hid (fun j p h => by omega), Lib.hid (Below.refl _ _)⟩
  case round =>
    obtain ⟨k, hk, rfl, HF, HB⟩ := hrel
    have hsz := HB.out.size
    by_cases hlt : k < n
    · obtain ⟨rfl, hbw⟩ := ha (by omega)
      obtain ⟨p, hpx⟩ : ∃ p, l[k]? = some p := ⟨_, List.getElem?_eq_getElem (by rw [HN.out]; exact hlt)⟩
      obtain ⟨c0, c1, c2⟩ := HC.out k p hpx
      rw [← HB.out.cell (p := ⟨b, o + k * 3, none⟩) hbw] at c0
      rw [← HB.out.cell (p := ⟨b, o + k * 3 + 1, none⟩) hbw] at c1
      rw [← HB.out.cell (p := ⟨b, o + k * 3 + 2, none⟩) hbw] at c2
      have hpm := List.mem_of_getElem? hpx
      have F : Calls Tryz.prog 72 #[.agg #[.string (bsT p.1), .string (bsT p.2.1), .string (bsT p.2.2)], .string nm, .string v] wr fun e w' => e = .returned (.bool (fitsB p nm.data.toList v.data.toList)) ∧ Below wr.heap.size wr w' := by
        have := fits_ref (bsT p.1) (bsT p.2.1) (bsT p.2.2) nm v (by rw [sizeOf, bytesOf]; exact HQ.out p hpm) hv wr
        simpa using this
      obtain ⟨f1, hf1⟩ : ∃ q, fitsB p nm.data.toList v.data.toList = q := ⟨_, rfl⟩
      have HNX : Hid (f1 = false → ∀ (j : Nat) q, j < k + 1 → l[j]? = some q → fitsB q nm.data.toList v.data.toList = false) := Lib.hid (fun h j q hj hq => by
        rcases Nat.lt_or_ge j k with g | g
        · exact HF.out j q g hq
        · obtain rfl : j = k := by omega
          rw [hpx] at hq
          obtain rfl := Option.some.inj hq
          rw [hf1]; exact h)
      have HY1 : Hid (f1 = true → true = RES) := Lib.hid (fun h => HYES.out p hpm (by rw [hf1]; exact h))
      rw [hf1] at F
      generalize bsT p.1 = P0 at *
      generalize bsT p.2.1 = P1 at *
      generalize bsT p.2.2 = P2 at *
      have i0' : (0 : Int) ≤ (k : Int) := by omega
      have i1' : (k : Int) < (n : Int) := by omega
      clear hpx hpm hf1 HF
      cases f1
      · go_wp2_with (go_at_call 72; (with_reducible refine F.mono ?_); rintro e w3 ⟨rfl, hb⟩; have HB3 := Lib.hid (HB.out.trans (hb.mono HB.out.size)); clear hb)
        go_roundw
        case rel => exact ⟨k + 1, by omega, by go_num, Lib.hid (HNX.out (by simp)), HB3⟩
        case measure => simp [intOf]; omega
      · have HR := Lib.hid (HY1.out rfl)
        go_wp2_with (go_at_call 72; (with_reducible refine F.mono ?_); rintro e w3 ⟨rfl, hb⟩; have HB3 := Lib.hid (HB.out.trans (hb.mono HB.out.size)); clear hb)
        first | (go_ret; exact ⟨by rw [← HR.out]; rfl, HB3.out⟩) | exact ⟨by rw [← HR.out]; rfl, HB3.out⟩
    · have hkn : k = n := by omega
      subst hkn
      have HR := Lib.hid (HNO.out HF.out)
      clear hlt
      go_wp2
      first | (go_ret; exact ⟨by rw [← HR.out]; rfl, HB.out⟩) | exact ⟨by rw [← HR.out]; rfl, HB.out⟩
set_option maxRecDepth 100000 in
set_option maxHeartbeats 16000000 in
theorem conf_ref (x : Stv) (y : Pv) (hn : x.rs.length ≤ 90000) (hr : ∀ r ∈ x.rs, SmallC r) (hyv : y.vr.length ≤ 4000) (hyl : y.cn.length ≤ 90000) (hyq : VerQ y.cn) (w : World) (hx : InSt w x) (hy : InP w y) :
    Calls Tryz.prog 20 #[agS x, agP y] w fun e w' => ∃ r, e = .returned r ∧ OwnT w' w.heap.size r (namesU x.rs (confl y)) ∧ Below w.heap.size w w' := by
  obtain ⟨i0, hi0, hz0, hz1, hz2'⟩ := info_parts infoT
  obtain ⟨w2, hw2, hz2, b2, c7, c11⟩ := two_boxes x y w
  have AG1 : Hid (∀ W (n v : ByteArray), v.size ≤ 4000 → Below w2.heap.size w2 W → Calls Tryz.prog 46 #[y.cv, .string n, .string v] W fun e w' => e = .returned (.bool (fitsL y.cn n.data.toList v.data.toList)) ∧ Below W.heap.size W w') := Lib.hid (fun W n v h hb => against_ref y.cv y.cn hyl hyq n v h W (hy.on (b2.trans (hb.mono b2.size))).cn)
  have AG2 : Hid (∀ W (r : Uv), r ∈ x.rs → Below w2.heap.size w2 W → Calls Tryz.prog 46 #[r.cv, .string (⟨y.nm.toArray⟩ : ByteArray), .string (⟨y.vr.toArray⟩ : ByteArray)] W fun e w' => e = .returned (.bool (fitsL r.cn y.nm y.vr)) ∧ Below W.heap.size W w') := Lib.hid (fun W r h hb => by
    have := against_ref r.cv r.cn (hr r h).cl (hr r h).cq (⟨y.nm.toArray⟩ : ByteArray) (⟨y.vr.toArray⟩ : ByteArray) (by rw [sizeOf, bytesOf]; exact hyv) W ((hx.on (b2.trans (hb.mono b2.size))).rs.2 r h).cn
    simpa using this)
  have C7 : Hid (∀ W, Below w2.heap.size w2 W → W.cell? ⟨w.heap.size, 0, none⟩ = some x.rv) := Lib.hid (fun W hb => (c7.on hb).1)
  have C11 : Hid (∀ W, Below w2.heap.size w2 W → W.cell? ⟨w.heap.size + 1, 0, none⟩ = some (.string (⟨y.nm.toArray⟩ : ByteArray)) ∧ W.cell? ⟨w.heap.size + 1, 1, none⟩ = some (.string (⟨y.vr.toArray⟩ : ByteArray)) ∧ W.cell? ⟨w.heap.size + 1, 3, none⟩ = some y.cv) := Lib.hid (fun W hb => by
    obtain ⟨h0, h1, -, h3, -⟩ := c11.on hb
    exact ⟨h0, h1, h3⟩)
  have HRC := Lib.hid hr
  have HIU := Lib.hid (hx.on b2).rs.2
  obtain ⟨a, c, b, o, hrv', hc, ha, hcell⟩ := (hx.on b2).rs.1
  rw [List.length_map] at hrv' hc ha
  have HC : Hid (∀ (j : Nat) r, x.rs[j]? = some r → w2.cell? ⟨b, o + j * 9, none⟩ = some (.string (⟨r.nm.toArray⟩ : ByteArray)) ∧ w2.cell? ⟨b, o + j * 9 + 1, none⟩ = some (.string (⟨r.vr.toArray⟩ : ByteArray)) ∧ w2.cell? ⟨b, o + j * 9 + 2, none⟩ = some (.int .i64 r.st) ∧ w2.cell? ⟨b, o + j * 9 + 3, none⟩ = some r.dv ∧ w2.cell? ⟨b, o + j * 9 + 4, none⟩ = some r.cv ∧ w2.cell? ⟨b, o + j * 9 + 5, none⟩ = some r.rv ∧ w2.cell? ⟨b, o + j * 9 + 6, none⟩ = some r.fv ∧ w2.cell? ⟨b, o + j * 9 + 7, none⟩ = some r.pv ∧ w2.cell? ⟨b, o + j * 9 + 8, none⟩ = some r.av) := Lib.hid (fun j r hj => by
    have := hcell j (cellsU r) (by rw [List.getElem?_map, hj]; rfl)
    exact ⟨this 0 _ (by omega) rfl, this 1 _ (by omega) rfl, this 2 _ (by omega) rfl, this 3 _ (by omega) rfl, this 4 _ (by omega) rfl, this 5 _ (by omega) rfl, this 6 _ (by omega) rfl, this 7 _ (by omega) rfl, this 8 _ (by omega) rfl⟩)
  obtain ⟨-, ⟨oa, on, oc, hov⟩, ⟨aa, an, ac, hav⟩, ⟨ia, im, ic, hiv⟩, ⟨fa, fn, fc, hfv⟩, ⟨da, dn, dc, hdv⟩, ⟨la, ln, lc, hlv⟩⟩ := inS7_of hx
  obtain ⟨⟨pda, pdc, _, _, pdv, -⟩, -⟩ := hy.dp
  obtain ⟨pca, pcc, _, _, pcv, -⟩ := hy.cn
  obtain ⟨pra, prc, _, _, prv, -⟩ := hy.rp
  obtain ⟨pfa, pfc, _, _, pfv, -⟩ := hy.fl
  obtain ⟨pia, pic, _, _, piv, -⟩ := hy.it
  obtain ⟨⟨pa0, pc0, _, _, pv0, -⟩, -⟩ := hy.s0
  obtain ⟨⟨pa1, pc1, _, _, pv1, -⟩, -⟩ := hy.s1
  obtain ⟨⟨pa2, pc2, _, _, pv2, -⟩, -⟩ := hy.s2
  obtain ⟨⟨pa3, pc3, _, _, pv3, -⟩, -⟩ := hy.s3
  have HB2 := Lib.hid b2
  have HW2 := Lib.hid hw2
  have HZ2 := Lib.hid hz2
  obtain ⟨n, hN⟩ : ∃ n, x.rs.length = n := ⟨_, rfl⟩
  rw [hN] at hrv' hc ha hn
  have HN := Lib.hid hN
  obtain ⟨F, hF⟩ : ∃ F : List Uv → List Bs, (fun l => namesU l (confl y)) = F := ⟨_, rfl⟩
  have HF0 : Hid (F (x.rs.take 0) = []) := Lib.hid (by rw [← hF]; rfl)
  have HTK : Hid (∀ k p, x.rs[k]? = some p → F (x.rs.take (k + 1)) = F (x.rs.take k) ++ (if confl y p = true then [p.nm] else []) ∧ (F (x.rs.take k)).length ≤ k) := Lib.hid (fun k p h => by
    rw [← hF]
    exact ⟨names_take h, Nat.le_trans (names_len _ _) (by rw [List.length_take]; omega)⟩)
  have HFE : Hid (F (x.rs.take n) = namesU x.rs (confl y)) := Lib.hid (by rw [← hF, List.take_of_length_le (by omega)])
  obtain ⟨RES, hRES⟩ : ∃ q, namesU x.rs (confl y) = q := ⟨_, rfl⟩
  rw [hRES] at HFE ⊢
  have HCF : Hid (∀ r : Uv, confl y r = (!decide (r.nm = y.nm) && !decide (r.st = 1) && (fitsL y.cn r.nm r.vr || fitsL r.cn y.nm y.vr))) := Lib.hid (fun r => rfl)
  obtain ⟨CF, hCF⟩ : ∃ q : Uv → Bool, (fun r => confl y r) = q := ⟨_, rfl⟩
  have HTK2 : Hid (∀ k p, x.rs[k]? = some p → F (x.rs.take (k + 1)) = F (x.rs.take k) ++ (if CF p = true then [p.nm] else []) ∧ (F (x.rs.take k)).length ≤ k) := Lib.hid (fun k p h => by rw [← hCF]; exact HTK.out k p h)
  have HCF2 : Hid (∀ r : Uv, CF r = (!decide (r.nm = y.nm) && !decide (r.st = 1) && (fitsL y.cn r.nm r.vr || fitsL r.cn y.nm y.vr))) := Lib.hid (fun r => by rw [← hCF]; exact HCF.out r)
  clear hF hRES hcell hN hx hy b2 hw2 hz2 c7 c11 hr hyq hyv hyl HTK HCF hCF
  obtain ⟨rs, ds, ls, rv, dv, ov, av, iv, fv, lv⟩ := x
  obtain ⟨nm, vr, dp, cn, rp, fl, it, s0, s1, s2, s3, qdv, qcv, qrv, qfv, qiv, v0, v1, v2, v3⟩ := y
  unfold agS agP
  dsimp only at *
  subst hrv' hov hav hiv hfv hdv hlv pdv pcv prv pfv piv pv0 pv1 pv2 pv3
  simp only [List.length_map] at *
  have hNMt : (⟨nm.toArray⟩ : ByteArray).data.toList = nm := by simp
  generalize (⟨nm.toArray⟩ : ByteArray) = NM at *
  have HNM := Lib.hid hNMt
  clear hNMt
  generalize (⟨vr.toArray⟩ : ByteArray) = VR at *
  go_enter Tryz.func20, Tryz.ntmps20
  have hw2 := HW2.out
  go_wp2
  clear hw2
  go_loopw [5, 6] (fun u i wr => ∃ (k : Nat), k ≤ n ∧ i = .int .i64 k ∧ Hid (OwnT wr w2.heap.size u (F (rs.take k))) ∧ Hid (Below w2.heap.size w2 wr)) (fun _ i _ => n - (intOf i).toNat)
  case atStart => exact ⟨0, by omega, rfl, Lib.hid (by rw [HF0.out]; exact OwnT.nil _ _), Lib.hid (Below.refl _ _)⟩
  case round =>
    obtain ⟨k, hk, rfl, HO, HB⟩ := hrel
    have hsz := HB.out.size
    have e0 := C7.out wr HB.out
    by_cases hlt : k < n
    · obtain ⟨rfl, hbw⟩ := ha (by omega)
      obtain ⟨r, hrx⟩ : ∃ p, rs[k]? = some p := ⟨_, List.getElem?_eq_getElem (by rw [HN.out]; exact hlt)⟩
      have hrm := List.mem_of_getElem? hrx
      obtain ⟨c0, c1, c2, c3, c4, c5, c6, c7, c8⟩ := HC.out k r hrx
      rw [← HB.out.cell (p := ⟨b, o + k * 9, none⟩) hbw] at c0
      rw [← HB.out.cell (p := ⟨b, o + k * 9 + 1, none⟩) hbw] at c1
      rw [← HB.out.cell (p := ⟨b, o + k * 9 + 2, none⟩) hbw] at c2
      rw [← HB.out.cell (p := ⟨b, o + k * 9 + 3, none⟩) hbw] at c3
      rw [← HB.out.cell (p := ⟨b, o + k * 9 + 4, none⟩) hbw] at c4
      rw [← HB.out.cell (p := ⟨b, o + k * 9 + 5, none⟩) hbw] at c5
      rw [← HB.out.cell (p := ⟨b, o + k * 9 + 6, none⟩) hbw] at c6
      rw [← HB.out.cell (p := ⟨b, o + k * 9 + 7, none⟩) hbw] at c7
      rw [← HB.out.cell (p := ⟨b, o + k * 9 + 8, none⟩) hbw] at c8
      obtain ⟨htk, hlen⟩ := HTK2.out k r hrx
      rw [HCF2.out r] at htk
      have hi := HIU.out r hrm
      obtain ⟨⟨ra, rc, -, -, qdv, -⟩, -⟩ := hi.dp
      obtain ⟨ra2, rc2, -, -, qcv, -⟩ := hi.cn
      obtain ⟨ra3, rc3, -, -, qrv, -⟩ := hi.rp
      obtain ⟨ra4, rc4, -, -, qfv, -⟩ := hi.cf
      obtain ⟨ra5, rc5, -, -, qpv, -⟩ := hi.pd
      obtain ⟨ra6, rc6, -, -, qav, -⟩ := hi.aw
      have G1 := fun W hb => AG1.out W (⟨r.nm.toArray⟩ : ByteArray) (⟨r.vr.toArray⟩ : ByteArray) (by rw [sizeOf, bytesOf]; exact (HRC.out r hrm).vr) hb
      have G2 := fun W hb => AG2.out W r hrm hb
      have hRN : (⟨r.nm.toArray⟩ : ByteArray).data.toList = r.nm := by simp
      have hRV : (⟨r.vr.toArray⟩ : ByteArray).data.toList = r.vr := by simp
      generalize (⟨r.nm.toArray⟩ : ByteArray) = RN at *
      generalize (⟨r.vr.toArray⟩ : ByteArray) = RV at *
      rw [hRN, hRV] at G1
      rw [qdv] at c3
      rw [qcv] at c4 G2
      rw [qrv] at c5
      rw [qfv] at c6
      rw [qpv] at c7
      rw [qav] at c8
      simp only [List.length_map] at *
      have he := eqT RN NM
      rw [hRN, HNM.out] at he
      obtain ⟨q1, hq1⟩ : ∃ q, decide (r.nm = nm) = q := ⟨_, rfl⟩
      obtain ⟨f1, hf1⟩ : ∃ q, fitsL cn r.nm r.vr = q := ⟨_, rfl⟩
      obtain ⟨f2, hf2⟩ : ∃ q, fitsL r.cn nm vr = q := ⟨_, rfl⟩
      rw [hq1] at he
      rw [hq1, hf1, hf2] at htk
      rw [hf1] at G1
      rw [hf2] at G2
      have HTK3 := Lib.hid htk
      have HRN := Lib.hid hRN
      obtain ⟨n1, hn1⟩ : ∃ q, r.dp.length = q := ⟨_, rfl⟩
      obtain ⟨n2, hn2⟩ : ∃ q, r.cn.length = q := ⟨_, rfl⟩
      obtain ⟨n3, hn3⟩ : ∃ q, r.rp.length = q := ⟨_, rfl⟩
      obtain ⟨n4, hn4⟩ : ∃ q, r.cf.length = q := ⟨_, rfl⟩
      obtain ⟨n5, hn5⟩ : ∃ q, r.pd.length = q := ⟨_, rfl⟩
      obtain ⟨n6, hn6⟩ : ∃ q, r.aw.length = q := ⟨_, rfl⟩
      obtain ⟨st, hst0⟩ : ∃ q, r.st = q := ⟨_, rfl⟩
      rw [hn1] at c3
      rw [hn2] at c4 G2
      rw [hn3] at c5
      rw [hn4] at c6
      rw [hn5] at c7
      rw [hn6] at c8
      rw [hst0] at c2 HTK3
      obtain ⟨wb, hwb⟩ : ∃ wb, wr.alloc (.cells #[.string RN, .string RV, .int .i64 st, .slice ra n1 rc, .slice ra2 n2 rc2, .slice ra3 n3 rc3, .slice ra4 n4 rc4, .slice ra5 n5 rc5, .slice ra6 n6 rc6] 71) = wb := ⟨_, rfl⟩
      have hbx : Below wr.heap.size wr wb := by rw [← hwb]; exact (Below.refl wr.heap.size wr).alloc (Nat.le_refl _) _
      have hzb : wb.heap.size = wr.heap.size + 1 := by rw [← hwb]; simp
      obtain ⟨x0, x1, x2, -, x4, -, -, -, -⟩ := boxV9 wr (.string RN) (.string RV) (.int .i64 st) (.slice ra n1 rc) (.slice ra2 n2 rc2) (.slice ra3 n3 rc3) (.slice ra4 n4 rc4) (.slice ra5 n5 rc5) (.slice ra6 n6 rc6) 71
      rw [hwb] at x0 x1 x2 x4
      have HBb := Lib.hid (HB.out.trans (hbx.mono hsz))
      have HOb := Lib.hid (HO.out.on hbx)
      have X9 : Hid (∀ V, Below wb.heap.size wb V → V.cell? ⟨wr.heap.size, 0, none⟩ = some (.string RN) ∧ V.cell? ⟨wr.heap.size, 1, none⟩ = some (.string RV) ∧ V.cell? ⟨wr.heap.size, 4, none⟩ = some (.slice ra2 n2 rc2)) := Lib.hid (fun V hb => ⟨(hb.cell (p := ⟨wr.heap.size, 0, none⟩) (show wr.heap.size < wb.heap.size by omega)).trans x0, (hb.cell (p := ⟨wr.heap.size, 1, none⟩) (show wr.heap.size < wb.heap.size by omega)).trans x1, (hb.cell (p := ⟨wr.heap.size, 4, none⟩) (show wr.heap.size < wb.heap.size by omega)).trans x4⟩)
      obtain ⟨p0, p1, p3⟩ := C11.out wb HBb.out
      have G1x := G1 wb HBb.out
      have HG2 := Lib.hid G2
      have i0' : (0 : Int) ≤ (k : Int) := by omega
      have i1' : (k : Int) < (n : Int) := by omega
      have hNO : Hid ((!q1 && !decide (st = 1) && (f1 || f2)) = false → F (rs.take (k + 1)) = F (rs.take k)) := Lib.hid (fun h => by rw [HTK3.out, h]; simp)
      have hYES : Hid ((!q1 && !decide (st = 1) && (f1 || f2)) = true → F (rs.take (k + 1)) = F (rs.take k) ++ [r.nm]) := Lib.hid (fun h => by rw [HTK3.out, h]; simp)
      obtain ⟨RNM, hRNM⟩ : ∃ q, r.nm = q := ⟨_, rfl⟩
      rw [hRNM] at hYES HRN
      obtain ⟨RR, hRR⟩ : ∃ q, F (rs.take k) = q := ⟨_, rfl⟩
      rw [hRR] at hNO hYES HOb hlen
      clear htk hq1 hf1 hf2 hn1 hn2 hn3 hn4 hn5 hn6 hst0 hrx hrm hi qdv qcv qrv qfv qpv qav hRN hRV G1 G2 hRNM hRR HO hbx
      cases q1
      rotate_left
      · go_wp2
        go_roundw
        case rel => exact ⟨k + 1, by omega, by go_num, by rw [hNO.out (by simp)]; exact HOb, HBb⟩
        case measure => simp [intOf]; omega
      by_cases hst : st = 1
      · subst hst
        go_wp2
        go_roundw
        case rel => exact ⟨k + 1, by omega, by go_num, by rw [hNO.out (by simp)]; exact HOb, HBb⟩
        case measure => simp [intOf]; omega
      have hsb : (st == 1) = false := by simpa using hst
      have hdd : decide (st = 1) = false := decide_eq_false hst
      rw [hdd] at hNO hYES
      cases f1
      · cases f2
        · have HF1 := Lib.hid (hNO.out (by simp))
          go_wp2_with (first
            | (go_at_call 46; (with_reducible refine G1x.mono ?_); rintro e w4 ⟨rfl, hb⟩; have HB4 := Lib.hid (HBb.out.trans (hb.mono HBb.out.size)); have HO4 := Lib.hid (HOb.out.on hb); obtain ⟨z0, z1, z4⟩ := X9.out _ hb; obtain ⟨y0, y1, y3⟩ := C11.out _ HB4.out; have G2x := HG2.out _ HB4.out; clear hb)
            | (go_at_call 46; (with_reducible refine G2x.mono ?_); rintro e w5 ⟨rfl, hb⟩; have HB5 := Lib.hid (HB4.out.trans (hb.mono HB4.out.size)); have HO5 := Lib.hid (HO4.out.on hb); clear hb))
          go_roundw
          case rel => exact ⟨k + 1, by omega, by go_num, by rw [HF1.out]; exact HO5, HB5⟩
          case measure => simp [intOf]; omega
        · have HF1 := Lib.hid (hYES.out (by simp))
          go_wp2_with (first
            | (go_at_call 46; (with_reducible refine G1x.mono ?_); rintro e w4 ⟨rfl, hb⟩; have HB4 := Lib.hid (HBb.out.trans (hb.mono HBb.out.size)); have HO4 := Lib.hid (HOb.out.on hb); have HX4 := Lib.hid hb; obtain ⟨z0, z1, z4⟩ := X9.out _ hb; obtain ⟨y0, y1, y3⟩ := C11.out _ HB4.out; have G2x := HG2.out _ HB4.out; clear hb)
            | (go_at_call 46; (with_reducible refine G2x.mono ?_); rintro e w5 ⟨rfl, hb⟩; have HB5 := Lib.hid (HB4.out.trans (hb.mono HB4.out.size)); have HO5 := Lib.hid (HO4.out.on hb); obtain ⟨v0', v1', v4'⟩ := X9.out _ (HX4.out.trans (hb.mono HX4.out.size)); have hs5 := HB5.out.size; clear hb)
            | (at_builtin; refine wpList_append_own _ rfl _ _ 33 rfl w2.heap.size 9 i0 _ 1 16 Tryz.underlying33 hi0 hz0 hz1 hz2' rfl (by decide) _ _ _ rfl (World.ownsRow.alloc HO5.out _) ⟨w5.heap.size, 0, none⟩ 1 1 [.string RN] rfl rfl ?c1 ?c2 ?c3 ?c4 ?c5 ?_))
          case c1 =>
            intro j u hj
            match j, hj with
            | 0, hj => simp at hj; subst hj; simp [Addr.add]
          case c2 => intro u hu; simp at hu; subst hu; rfl
          case c3 => unfold maxLen; omega
          case c4 => omega
          case c5 => simp; omega
          intro v' w6 hown' hgrow _
          have HO6 : Hid (OwnT w6 w2.heap.size v' (F (rs.take (k + 1)))) := Lib.hid (by rw [HF1.out]; exact OwnT.app HRN.out (by simpa using hown'))
          have HB6 : Hid (Below w2.heap.size w2 w6) := Lib.hid (OwnT.belowA HB5.out HO5.out hgrow (Nat.le_refl _) hs5)
          clear hown' hgrow
          go_wp2
          go_roundw
          case rel => exact ⟨k + 1, by omega, by go_num, HO6, HB6⟩
          case measure => simp [intOf]; omega
      · have HF1 := Lib.hid (hYES.out (by simp))
        go_wp2_with (first
          | (go_at_call 46; (with_reducible refine G1x.mono ?_); rintro e w5 ⟨rfl, hb⟩; have HB5 := Lib.hid (HBb.out.trans (hb.mono HBb.out.size)); have HO5 := Lib.hid (HOb.out.on hb); obtain ⟨v0', v1', v4'⟩ := X9.out _ hb; have hs5 := HB5.out.size; clear hb)
          | (at_builtin; refine wpList_append_own _ rfl _ _ 33 rfl w2.heap.size 9 i0 _ 1 16 Tryz.underlying33 hi0 hz0 hz1 hz2' rfl (by decide) _ _ _ rfl (World.ownsRow.alloc HO5.out _) ⟨w5.heap.size, 0, none⟩ 1 1 [.string RN] rfl rfl ?c1 ?c2 ?c3 ?c4 ?c5 ?_))
        case c1 =>
          intro j u hj
          match j, hj with
          | 0, hj => simp at hj; subst hj; simp [Addr.add]
        case c2 => intro u hu; simp at hu; subst hu; rfl
        case c3 => unfold maxLen; omega
        case c4 => omega
        case c5 => simp; omega
        intro v' w6 hown' hgrow _
        have HO6 : Hid (OwnT w6 w2.heap.size v' (F (rs.take (k + 1)))) := Lib.hid (by rw [HF1.out]; exact OwnT.app HRN.out (by simpa using hown'))
        have HB6 : Hid (Below w2.heap.size w2 w6) := Lib.hid (OwnT.belowA HB5.out HO5.out hgrow (Nat.le_refl _) hs5)
        clear hown' hgrow
        go_wp2
        go_roundw
        case rel => exact ⟨k + 1, by omega, by go_num, HO6, HB6⟩
        case measure => simp [intOf]; omega
    · have hkn : k = n := by omega
      subst hkn
      have HFIN := Lib.hid (show OwnT wr w.heap.size _ RES from by have := HO.out.mono (base' := w.heap.size) (by have := HZ2.out; omega); rw [HFE.out] at this; exact this)
      have HFB := Lib.hid (HB2.out.trans (HB.out.mono HB2.out.size))
      clear hlt
      go_wp2
      first | (go_ret; exact ⟨_, rfl, HFIN.out, HFB.out⟩) | exact ⟨_, rfl, HFIN.out, HFB.out⟩
end Go.Proofs.YtkcamfcjkjiijaaGreatDoor
