/-
  check.Owned: who has files where a package's are to be; nothing old turns.
-/
import Derived.Test.YtkcamfcjkjiijaaGreatDoorPEcLost
import Derived.Test.YtkcamfcjkjiijaaGreatDoorPEcSpt
import Derived.Test.YtkcamfcjkjiijaaGreatDoorPEcOwnM
import Derived.Test.YtkcamfcjkjiijaaGreatDoorPPSorted2
import Derived.Test.YtkcamfcjkjiijaaGreatDoorPEcTkn
namespace Go.Proofs.YtkcamfcjkjiijaaGreatDoor
open Go.RowKit Go.WideMaps Go.Maps Go.Shelf
set_option maxRecDepth 100000 in
set_option maxHeartbeats 16000000 in
theorem owned_any (x : Stv) (y : Pv) (hfx : FitSt x) (hfy : FitP y) (hd : x.ds.length ≤ 90000) (hl : x.ls.length ≤ 70) (hp : ∀ p ∈ x.ls, p.1.2.length ≤ 90000) (hn : y.fl.length ≤ 40) (hr : y.rp.length ≤ 90000) (w : World) (hx : InSt w x) (hy : InP w y) :
    Calls Tryz.prog 23 #[agS x, agP y] w fun e w' => ∃ r, e = .returned r ∧ OwnS w' w.heap.size r (srt (progOwn x.ds y.nm y.rp x.ls (placesL x.ds y.nm y.fl))) ∧ Below w.heap.size w w' := by
  obtain ⟨i0, hi, hz0, hz1, hz2'⟩ := info_parts infoT
  obtain ⟨w2, hw2, hz2, b2, c7, c11⟩ := two_boxes x y w
  have SQ : Hid (Calls Tryz.prog 51 #[agS x] w2 fun e w' => ∃ B q, e = .returned (.map (some B)) ∧ w2.heap.size ≤ B ∧ w'.ownsMap Tryz.prog 90 unitElem B q (setSp (spotsL x.ds x.ls)) ∧ Below w2.heap.size w2 w') := Lib.hid (spots_any x hfx hd (by omega) hp w2 (hx.on b2))
  have PL : Hid (∀ W, Below w2.heap.size w2 W → Calls Tryz.prog 52 #[agS x, agP y] W fun e w' => ∃ r, e = .returned r ∧ OwnT w' W.heap.size r (placesL x.ds y.nm y.fl) ∧ Below W.heap.size W w') := Lib.hid (fun W hb => places_any x hd y (by omega) W (hx.on (b2.trans (hb.mono b2.size))) (hy.on (b2.trans (hb.mono b2.size))))
  have hal : (placesL x.ds y.nm y.fl).length ≤ 40 := Nat.le_trans (places_len _ _ _) hn
  have HGA : Hid (∀ a ∈ placesL x.ds y.nm y.fl, a.length ≤ maxLen) := Lib.hid (fun a ha => by
    unfold placesL at ha
    obtain ⟨f, hf, rfl⟩ := List.mem_map.1 ha
    exact toD_len x.ds hfx.ds (hfy.fl f (List.mem_filter.1 hf).1).1)
  have HGN : Hid (∀ p ∈ x.ls, p.1.1.length ≤ maxLen) := Lib.hid (fun p hp => (hfx.ls p hp).1)
  have HGS : Hid (∀ y ∈ spotsL x.ds x.ls, GoodSp y) := Lib.hid (spots_good hfx (fun p hp => hp))
  obtain ⟨ats, hats⟩ : ∃ ats, placesL x.ds y.nm y.fl = ats := ⟨_, rfl⟩
  rw [hats] at PL hal HGA ⊢
  have CT : Hid (∀ W (q : ByteArray), Below w2.heap.size w2 W → Calls Tryz.prog 53 #[y.rv, .string q] W fun e w' => e = .returned (.bool (decide (q.data.toList ∈ y.rp))) ∧ W = w') := Lib.hid (fun W q hb => contains_any y.rv y.rp hr q W ((hy.on (b2.trans (hb.mono b2.size))).rp))
  have C7 : Hid (∀ W, Below w2.heap.size w2 W → Cell7 w.heap.size W x) := Lib.hid (fun W hb => c7.on hb)
  have C11 : Hid (∀ W, Below w2.heap.size w2 W → Cell11 (w.heap.size + 1) W y) := Lib.hid (fun W hb => c11.on hb)
  obtain ⟨hin, a, c, b, o, hlv', hc, ha, hcell⟩ := (hx.on b2).ls
  have HI := Lib.hid hin
  have HC := Lib.hid hcell
  have HP := Lib.hid hp
  obtain ⟨⟨⟨ra, rc, -, -, hrv, -⟩, -⟩, ⟨oa, on, oc, hov⟩, ⟨aa, an, ac, hav⟩, ⟨ia, im, ic, hiv⟩, ⟨fa, fn, fc, hfv⟩, ⟨da, dn, dc, hdv⟩, -⟩ := inS7_of hx
  obtain ⟨⟨pda, pdc, _, _, pdv, -⟩, -⟩ := hy.dp
  obtain ⟨pca, pcc, _, _, pcv, -⟩ := hy.cn
  obtain ⟨pra, prc, _, _, prv, -⟩ := hy.rp
  obtain ⟨pfa, pfc, _, _, pfv, -⟩ := hy.fl
  obtain ⟨pia, pic, _, _, piv, -⟩ := hy.it
  obtain ⟨⟨pa0, pc0, _, _, pv0, -⟩, -⟩ := hy.s0
  obtain ⟨⟨pa1, pc1, _, _, pv1, -⟩, -⟩ := hy.s1
  obtain ⟨⟨pa2, pc2, _, _, pv2, -⟩, -⟩ := hy.s2
  obtain ⟨⟨pa3, pc3, _, _, pv3, -⟩, -⟩ := hy.s3
  have HB2 := Lib.hid b2
  have HW2 := Lib.hid hw2
  have HZ2 := Lib.hid hz2
  obtain ⟨n, hN⟩ : ∃ n, x.ls.length = n := ⟨_, rfl⟩
  rw [hN] at hlv' hc ha hl
  have HN := Lib.hid hN
  have HFL : Hid ((progOwn x.ds y.nm y.rp x.ls ats).length ≤ 5000) := Lib.hid (Nat.le_trans (progOwn_len _ _ _ _ _) (Nat.le_trans (Nat.mul_le_mul hal (by omega : x.ls.length ≤ 70)) (by decide)))
  have HPK : Hid (∀ k, (progOwn x.ds y.nm y.rp x.ls (ats.take k)).length ≤ 2800) := Lib.hid (fun k => Nat.le_trans (progOwn_len _ _ _ _ _) (by
    have h1 : (ats.take k).length ≤ 40 := by rw [List.length_take]; omega
    have h2 : x.ls.length ≤ 70 := by omega
    exact Nat.mul_le_mul h1 h2))
  obtain ⟨RES, hRES⟩ : ∃ q, progOwn x.ds y.nm y.rp x.ls ats = q := ⟨_, rfl⟩
  rw [hRES] at HFL ⊢
  have HRES := Lib.hid hRES
  have HSL := Lib.hid (rfl : spotsL x.ds x.ls = spotsL x.ds x.ls)
  clear hRES hcell hin hN hx hy b2 hw2 hz2 hd c7 c11 hats hp hfx hfy
  obtain ⟨rs, ds, ls, rv, dv, ov, av, iv, fv, lv⟩ := x
  obtain ⟨nm, vr, dp, cn, rp, fl, it, s0, s1, s2, s3, qdv, qcv, qrv, qfv, qiv, v0, v1, v2, v3⟩ := y
  unfold agS agP
  unfold agS agP at PL
  unfold agS at SQ
  unfold Cell7 at C7
  unfold Cell11 at C11
  dsimp only at *
  subst hrv hov hav hiv hfv hdv hlv' pdv pcv prv pfv piv pv0 pv1 pv2 pv3
  simp only [List.length_map] at *
  generalize rs.length = rn at *
  generalize dp.length = dpn at *
  generalize cn.length = cnn at *
  generalize it.length = itn at *
  generalize fl.length = fln at *
  generalize s0.length = sn0 at *
  generalize s1.length = sn1 at *
  generalize s2.length = sn2 at *
  generalize s3.length = sn3 at *
  generalize rp.length = rpn at *
  have hNMt : (⟨nm.toArray⟩ : ByteArray).data.toList = nm := by simp
  generalize (⟨nm.toArray⟩ : ByteArray) = NM at *
  have HNM := Lib.hid hNMt
  clear hNMt
  generalize (⟨vr.toArray⟩ : ByteArray) = VR at *
  obtain ⟨SPL, hSPL⟩ : ∃ q, spotsL ds ls = q := ⟨_, rfl⟩
  rw [hSPL] at SQ HGS
  have HSPL := Lib.hid hSPL
  clear hSPL HSL
  go_enter Tryz.func23, Tryz.ntmps23
  have hw2 := HW2.out
  obtain ⟨d0, d1, d2, d3, d4, d5, d6⟩ := C7.out w2 (Below.refl _ _)
  go_wp2_with (first
    | (go_at_call 51; (with_reducible refine SQ.out.mono ?_); rintro e w3 ⟨B, q, rfl, hB, hm, hb⟩; have HM3 := Lib.hid hm; have HB3 := Lib.hid hb; obtain ⟨d0, d1, d2, d3, d4, d5, d6⟩ := C7.out _ hb; obtain ⟨p0, p1, p2, p3, p4, p5, p6, p7, p8, p9, p10⟩ := C11.out _ hb; clear hb hm hw2)
    | (go_at_call 52; (with_reducible refine (PL.out _ HB3.out).mono ?_); rintro e w4 ⟨r, rfl, ho, hb⟩; obtain ⟨ra4, rn4, rc4, hrf, hrl⟩ := ownT_len ho; subst hrf hrl; have HO4 := Lib.hid ho; have HM4 := Lib.hid (World.ownsMap.kept HM3.out (grownV hb) (by simp)); have HB4 := Lib.hid (HB3.out.trans (hb.mono HB3.out.size)); clear hb ho d0 d1 d2 d3 d4 d5 d6 p0 p1 p2 p3 p4 p5 p6 p7 p8 p9 p10))
  obtain ⟨na, hna⟩ : ∃ q, ats.length = q := ⟨_, rfl⟩
  rw [hna] at hal HO4 ⊢
  have HNA := Lib.hid hna
  clear hna HM3 SQ PL
  have B24 : Hid (∀ W, Below w4.heap.size w4 W → Below w2.heap.size w2 W) := Lib.hid (fun W hb => HB4.out.trans (hb.mono HB4.out.size))
  obtain ⟨ta, tc, tb, to', hte, -, hta, htcell⟩ := HO4.out.holds
  rw [HNA.out] at hte hta
  simp only [Value.slice.injEq] at hte
  obtain ⟨rfl, -, rfl⟩ := hte
  have HTC := Lib.hid htcell
  clear htcell
  go_wp2
  go_loopw [6, 19] (fun u i wr => ∃ (k : Nat), k ≤ na ∧ i = .int .i64 k ∧ Hid (OwnT wr w4.heap.size u (progOwn ds nm rp ls (ats.take k))) ∧ Hid (Below w4.heap.size w4 wr)) (fun _ i _ => na - (intOf i).toNat)
  case atStart => exact ⟨0, by omega, rfl, Lib.hid (by rw [List.take_zero]; exact OwnT.nil _ _), Lib.hid (Below.refl _ _)⟩
  case round =>
    obtain ⟨k, hk, rfl, HO, HB⟩ := hrel
    have hsz := HB.out.size
    by_cases hlt : k < na
    · obtain ⟨rfl, htb⟩ := hta (by omega)
      obtain ⟨at', hat⟩ : ∃ p, ats[k]? = some p := ⟨_, List.getElem?_eq_getElem (by rw [HNA.out]; exact hlt)⟩
      have ct := (HB.out.cell (p := ⟨tb, to' + k, none⟩) htb).trans (HTC.out k at' hat)
      have hgA := HGA.out at' (List.mem_of_getElem? hat)
      have HNX := Lib.hid (progOwn_take (ds := ds) (nm := nm) (rp := rp) (L := ls) hat)
      obtain ⟨AV, hAV⟩ : ∃ X : ByteArray, (⟨at'.toArray⟩ : ByteArray) = X := ⟨_, rfl⟩
      rw [hAV] at ct
      have HAV := Lib.hid hAV
      obtain ⟨d0, d1, d2, d3, d4, d5, d6⟩ := C7.out wr (B24.out wr HB.out)
      have hPK := HPK.out k
      obtain ⟨PK, hPKe⟩ : ∃ q, progOwn ds nm rp ls (ats.take k) = q := ⟨_, rfl⟩
      rw [hPKe] at HNX HO hPK
      have HO0 : Hid (OwnT wr w4.heap.size _ (PK ++ ownAt ds nm rp ls at' (ls.take 0))) := Lib.hid (by have h0 : ownAt ds nm rp ls at' (ls.take 0) = [] := rfl; rw [h0, List.append_nil]; exact HO.out)
      have HEX : Hid (progOwn ds nm rp ls (ats.take (k + 1)) = PK ++ ownAt ds nm rp ls at' (ls.take n)) := Lib.hid (by rw [HNX.out, List.take_of_length_le (by rw [HN.out]; exact Nat.le_refl _)])
      clear hat hAV hPKe HO d0 d1 d2 d3 d4 d5
      go_wp2
      clear ct d6
      go_loopw [6, 26] (fun u i wr => ∃ (j : Nat), j ≤ n ∧ i = .int .i64 j ∧ Hid (OwnT wr w4.heap.size u (PK ++ ownAt ds nm rp ls at' (ls.take j))) ∧ Hid (Below w4.heap.size w4 wr)) (fun _ i _ => n - (intOf i).toNat)
      case atStart => exact ⟨0, by omega, rfl, HO0, HB⟩
      case round =>
        obtain ⟨j, hj, rfl, HO, HB⟩ := hrel
        have hsz := HB.out.size
        by_cases hlt2 : j < n
        · obtain ⟨rfl, hbw⟩ := ha (by omega)
          obtain ⟨p, hpx⟩ : ∃ p, ls[j]? = some p := ⟨_, List.getElem?_eq_getElem (by rw [HN.out]; exact hlt2)⟩
          obtain ⟨c0, c1⟩ := HC.out j p hpx
          have hpm := List.mem_of_getElem? hpx
          rw [← (B24.out wr HB.out).cell (p := ⟨b, o + j * 2, none⟩) hbw] at c0
          rw [← (B24.out wr HB.out).cell (p := ⟨b, o + j * 2 + 1, none⟩) hbw] at c1
          obtain ⟨pa, pn, pc, hu⟩ := HoldT.form2 (HI.out p hpm)
          rw [hu] at c1
          have hgood : GoodSp (at', p.1.1) := ⟨hgA, HGN.out p hpm⟩
          have HKEY := litS_is hgood
          have HHAS := setSp_has SPL HGS.out hgood
          have htk := ownAt_take (ds := ds) (nm := nm) (rp := rp) (L := ls) (a := at') hpx
          have hoL := ownAt_len ds nm rp ls (ls.take j) at'
          rw [List.length_take] at hoL
          rw [HSPL.out] at htk
          unfold other at htk
          unfold valSp at HKEY
          dsimp only at HKEY
          obtain ⟨X, hX⟩ : ∃ X : ByteArray, bsT p.1.1 = X := ⟨_, rfl⟩
          have hXL : X.data.toList = p.1.1 := by rw [← hX]
          rw [hX] at c0
          rw [show (⟨at'.toArray⟩ : ByteArray) = AV from HAV.out, show (⟨p.1.1.toArray⟩ : ByteArray) = X from hX] at HKEY
          have he := eqT X NM
          rw [hXL, HNM.out] at he
          obtain ⟨q0, hq0⟩ : ∃ q, decide ((at', p.1.1) ∈ SPL) = q := ⟨_, rfl⟩
          obtain ⟨q2, hq2⟩ : ∃ q, decide (p.1.1 = nm) = q := ⟨_, rfl⟩
          obtain ⟨q3, hq3⟩ : ∃ q, decide (p.1.1 ∈ rp) = q := ⟨_, rfl⟩
          rw [hq0] at HHAS
          rw [hq0, hq2, hq3] at htk
          rw [hq2] at he
          have HTK1 := Lib.hid htk
          have HHA := Lib.hid HHAS
          obtain ⟨kl, hkl⟩ : ∃ q, litSp (at', p.1.1) = q := ⟨_, rfl⟩
          rw [hkl] at HKEY HHA
          have HKY := Lib.hid HKEY
          obtain ⟨DD, hDD⟩ : ∃ q, setSp SPL = q := ⟨_, rfl⟩
          have HMW := Lib.hid (World.ownsMap.kept HM4.out (grownV HB.out) (by simp))
          rw [hDD] at HHA HMW
          have HMX := Lib.hid (HMW.out.alloc (.cells #[.string X, .slice pa pn pc] 63))
          have hbx := (Below.refl wr.heap.size wr).alloc (Nat.le_refl _) (.cells #[.string X, .slice pa pn pc] 63)
          have hby := hbx.alloc hbx.size (.cells #[] 87)
          obtain ⟨x0, x1⟩ := boxV2U wr (.string X) (.slice pa pn pc) 63
          have y0 := (((Below.refl _ (wr.alloc (.cells #[.string X, .slice pa pn pc] 63))).alloc (Nat.le_refl _) (.cells #[] 87)).cell (p := ⟨wr.heap.size, 0, none⟩) (by simp)).trans x0
          have HBy := Lib.hid (HB.out.trans (hby.mono hsz))
          have HOy := Lib.hid (HO.out.on hby)
          obtain ⟨p0, p1, p2, p3, p4, p5, p6, p7, p8, p9, p10⟩ := C11.out _ (B24.out _ HBy.out)
          have hsy := HBy.out.size
          have CTx := CT.out _ X (B24.out _ HBy.out)
          rw [hXL, hq3] at CTx
          have HXL := Lib.hid hXL
          have hNO : Hid (q0 = false ∨ q2 = true ∨ q3 = true → ownAt ds nm rp ls at' (ls.take (j + 1)) = ownAt ds nm rp ls at' (ls.take j)) := Lib.hid (fun h => by rw [HTK1.out]; rcases h with rfl | rfl | rfl <;> simp)
          have hYES : Hid (q0 = true → q2 = false → q3 = false → ownAt ds nm rp ls at' (ls.take (j + 1)) = ownAt ds nm rp ls at' (ls.take j) ++ [p.1.1]) := Lib.hid (fun h1 h2 h3 => by rw [HTK1.out]; simp [h1, h2, h3])
          have hlenR : (PK ++ ownAt ds nm rp ls at' (ls.take j)).length ≤ 90000 := by rw [List.length_append]; omega
          obtain ⟨RR, hRR⟩ : ∃ q, PK ++ ownAt ds nm rp ls at' (ls.take j) = q := ⟨_, rfl⟩
          rw [hRR] at HOy hlenR
          have HRR := Lib.hid hRR
          clear hgood HHAS HKEY htk hoL hq0 hq2 hq3 hkl hDD hX hXL hpx hpm hu x1 hRR HO HMW p1 p2 p3 p5 p6 p7 p8 p9 p10
          cases q0
          · go_wp2_with (at_lookup; refine wpList_lookup_own_unit _ rfl _ _ 85 rfl 90 87 lawSp Tryz.underlying85 (zeroUnitS _) B q DD rfl HMX.out _ _ rfl HKY.out ?_; rw [HHA.out])
            go_roundw
            case rel => exact ⟨j + 1, by omega, by go_num, by rw [hNO.out (by simp), HRR.out]; exact HOy, HBy⟩
            case measure => simp [intOf]; omega
          cases q2
          rotate_left
          · go_wp2_with (at_lookup; refine wpList_lookup_own_unit _ rfl _ _ 85 rfl 90 87 lawSp Tryz.underlying85 (zeroUnitS _) B q DD rfl HMX.out _ _ rfl HKY.out ?_; rw [HHA.out])
            go_roundw
            case rel => exact ⟨j + 1, by omega, by go_num, by rw [hNO.out (by simp), HRR.out]; exact HOy, HBy⟩
            case measure => simp [intOf]; omega
          cases q3
          rotate_left
          · go_wp2_with (first
              | (at_lookup; refine wpList_lookup_own_unit _ rfl _ _ 85 rfl 90 87 lawSp Tryz.underlying85 (zeroUnitS _) B q DD rfl HMX.out _ _ rfl HKY.out ?_; rw [HHA.out])
              | (go_at_call 53; (with_reducible refine CTx.mono ?_); rintro e w5 ⟨rfl, rfl⟩))
            go_roundw
            case rel => exact ⟨j + 1, by omega, by go_num, by rw [hNO.out (by simp), HRR.out]; exact HOy, HBy⟩
            case measure => simp [intOf]; omega
          have HF1 := Lib.hid (hYES.out rfl rfl rfl)
          go_wp2_with (first
            | (at_lookup; refine wpList_lookup_own_unit _ rfl _ _ 85 rfl 90 87 lawSp Tryz.underlying85 (zeroUnitS _) B q DD rfl HMX.out _ _ rfl HKY.out ?_; rw [HHA.out])
            | (go_at_call 53; (with_reducible refine CTx.mono ?_); rintro e w5 ⟨rfl, hw5⟩; subst hw5)
            | (at_builtin; refine wpList_append_own _ rfl _ _ 33 rfl w4.heap.size 9 i0 _ 1 16 Tryz.underlying33 hi hz0 hz1 hz2' rfl (by decide) _ _ _ rfl (World.ownsRow.alloc HOy.out _) ⟨wr.heap.size + 2, 0, none⟩ 1 1 [.string X] rfl rfl ?c1 ?c2 ?c3 ?c4 ?c5 ?_))
          case c1 =>
            intro j2 u hj2
            match j2, hj2 with
            | 0, hj2 => simp at hj2; subst hj2; rw [Addr.add_lit, Nat.zero_add]; exact (show _ from by have := boxV1C ((wr.alloc (.cells #[.string X, .slice pa pn pc] 63)).alloc (.cells #[] 87)) (.string X) 9; simpa using this)
          case c2 => intro u hu; simp at hu; subst hu; rfl
          case c3 => unfold maxLen; omega
          case c4 => omega
          case c5 => simp; omega
          intro v' w6 hown' hgrow _
          have HO6 : Hid (OwnT w6 w4.heap.size v' (PK ++ ownAt ds nm rp ls at' (ls.take (j + 1)))) := Lib.hid (by rw [HF1.out, ← List.append_assoc, HRR.out]; exact OwnT.app HXL.out (by simpa using hown'))
          have HB6 : Hid (Below w4.heap.size w4 w6) := Lib.hid (OwnT.belowA HBy.out HOy.out hgrow (Nat.le_refl _) hsy)
          clear hown' hgrow
          go_wp2
          go_roundw
          case rel => exact ⟨j + 1, by omega, by go_num, HO6, HB6⟩
          case measure => simp [intOf]; omega
        · have hjn : j = n := by omega
          subst hjn
          clear hlt2
          have HO7 : Hid (OwnT wr w4.heap.size _ (progOwn ds nm rp ls (ats.take (k + 1)))) := Lib.hid (by rw [HEX.out]; exact HO.out)
          clear HO
          go_wp2
          go_roundw
          case rel => exact ⟨k + 1, by omega, by go_num, HO7, HB⟩
          case measure => simp [intOf]; omega
    · have hkn : k = na := by omega
      subst hkn
      have HOF : Hid (OwnT wr w4.heap.size _ RES) := Lib.hid (by have := HO.out; rw [List.take_of_length_le (by rw [HNA.out]; exact Nat.le_refl _), HRES.out] at this; exact this)
      have HBF := Lib.hid (HB2.out.trans ((B24.out wr HB.out).mono HB2.out.size))
      have HSR : Hid (∀ v, Bare v → Holds' wr v RES → Calls Tryz.prog 54 #[v] wr fun e w' => ∃ v', e = .returned v' ∧ OwnS w' wr.heap.size v' (srt RES) ∧ Below wr.heap.size wr w') := Lib.hid (fun v hb h => sorted_any v RES HFL.out hb wr h)
      obtain ⟨ua, un, uc, hue, hul⟩ := ownT_len HOF.out
      subst hue hul
      have SX := HSR.out _ (OwnS.bare (show OwnS wr w4.heap.size _ RES from HOF.out)) HOF.out.holds
      clear hlt
      go_wp2_with (go_at_call 54; (with_reducible refine SX.mono ?_); rintro e w9 ⟨v9, rfl, ho9, hb⟩; have HFIN := Lib.hid (And.intro (OwnS.mono ho9 (HBF.out.size)) (HBF.out.trans (hb.mono HBF.out.size))); obtain ⟨va, vn, vc, hve, hvl⟩ := ownT_len (show OwnT w9 wr.heap.size v9 (srt RES) from ho9); subst hve; clear hb ho9 hvl)
      first | (go_ret; exact ⟨_, rfl, HFIN.out.1, HFIN.out.2⟩) | exact ⟨_, rfl, HFIN.out.1, HFIN.out.2⟩
end Go.Proofs.YtkcamfcjkjiijaaGreatDoor
