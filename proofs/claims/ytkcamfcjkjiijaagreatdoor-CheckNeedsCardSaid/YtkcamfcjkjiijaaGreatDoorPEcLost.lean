/-
  check.Lost: what those lose that a package replaces; nothing old turns.
-/
import Derived.Test.YtkcamfcjkjiijaaGreatDoorPEcLosM
import Derived.Test.YtkcamfcjkjiijaaGreatDoorPTFind
namespace Go.Proofs.YtkcamfcjkjiijaaGreatDoor
open Go.RowKit Go.Shelf
def Cell11 (b : Nat) (W : World) (y : Pv) : Prop := W.cell? ⟨b, 0, none⟩ = some (.string (⟨y.nm.toArray⟩ : ByteArray)) ∧ W.cell? ⟨b, 1, none⟩ = some (.string (⟨y.vr.toArray⟩ : ByteArray)) ∧ W.cell? ⟨b, 2, none⟩ = some y.dv ∧ W.cell? ⟨b, 3, none⟩ = some y.cv ∧ W.cell? ⟨b, 4, none⟩ = some y.rv ∧ W.cell? ⟨b, 5, none⟩ = some y.fv ∧ W.cell? ⟨b, 6, none⟩ = some y.iv ∧ W.cell? ⟨b, 7, none⟩ = some y.v0 ∧ W.cell? ⟨b, 8, none⟩ = some y.v1 ∧ W.cell? ⟨b, 9, none⟩ = some y.v2 ∧ W.cell? ⟨b, 10, none⟩ = some y.v3
theorem Cell11.on {b : Nat} {w w' : World} {y : Pv} (h : Cell11 b w y) (hb : Below w.heap.size w w') : Cell11 b w' y := by
  have hl : b < w.heap.size := World.block_lt_of_cell? w ⟨b, 0, none⟩ h.1
  obtain ⟨h0, h1, h2, h3, h4, h5, h6, h7, h8, h9, h10⟩ := h
  have k := fun i v (h : w.cell? ⟨b, i, none⟩ = some v) => (hb.cell (p := ⟨b, i, none⟩) hl).trans h
  exact ⟨k 0 _ h0, k 1 _ h1, k 2 _ h2, k 3 _ h3, k 4 _ h4, k 5 _ h5, k 6 _ h6, k 7 _ h7, k 8 _ h8, k 9 _ h9, k 10 _ h10⟩
theorem two_boxes (x : Stv) (y : Pv) (w : World) : ∃ w2, (w.alloc (.cells #[x.rv, x.dv, x.ov, x.av, x.iv, x.fv, x.lv] 30)).alloc (.cells #[.string (⟨y.nm.toArray⟩ : ByteArray), .string (⟨y.vr.toArray⟩ : ByteArray), y.dv, y.cv, y.rv, y.fv, y.iv, y.v0, y.v1, y.v2, y.v3] 38) = w2 ∧ w2.heap.size = w.heap.size + 2 ∧ Below w.heap.size w w2 ∧ Cell7 w.heap.size w2 x ∧ Cell11 (w.heap.size + 1) w2 y := by
  have b1 := (Below.refl w.heap.size w).alloc (Nat.le_refl _) (.cells #[x.rv, x.dv, x.ov, x.av, x.iv, x.fv, x.lv] 30)
  have b2 := b1.alloc b1.size (.cells #[.string (⟨y.nm.toArray⟩ : ByteArray), .string (⟨y.vr.toArray⟩ : ByteArray), y.dv, y.cv, y.rv, y.fv, y.iv, y.v0, y.v1, y.v2, y.v3] 38)
  have k1 := fun i v h => boxV7 w x.rv x.dv x.ov x.av x.iv x.fv x.lv 30 i v h
  have k2 := fun i v h => boxV11 (w.alloc (.cells #[x.rv, x.dv, x.ov, x.av, x.iv, x.fv, x.lv] 30)) (.string (⟨y.nm.toArray⟩ : ByteArray)) (.string (⟨y.vr.toArray⟩ : ByteArray)) y.dv y.cv y.rv y.fv y.iv y.v0 y.v1 y.v2 y.v3 38 i v h
  simp only [World.size_alloc] at k2
  have c1 : Cell7 w.heap.size (w.alloc (.cells #[x.rv, x.dv, x.ov, x.av, x.iv, x.fv, x.lv] 30)) x := ⟨k1 0 _ rfl, k1 1 _ rfl, k1 2 _ rfl, k1 3 _ rfl, k1 4 _ rfl, k1 5 _ rfl, k1 6 _ rfl⟩
  exact ⟨_, rfl, by simp, b2, c1.on ((Below.refl _ _).alloc (Nat.le_refl _) _), ⟨k2 0 _ rfl, k2 1 _ rfl, k2 2 _ rfl, k2 3 _ rfl, k2 4 _ rfl, k2 5 _ rfl, k2 6 _ rfl, k2 7 _ rfl, k2 8 _ rfl, k2 9 _ rfl, k2 10 _ rfl⟩⟩
theorem ownT_len {w : World} {base : Nat} {v : Value} {l : List Bs} (h : OwnT w base v l) : ∃ a n c, v = .slice a n c ∧ n = l.length := by
  obtain ⟨a, c, b, o, e, -⟩ := h.holds
  exact ⟨a, _, c, e, rfl⟩
set_option maxRecDepth 100000 in
set_option maxHeartbeats 16000000 in
theorem lost_any (x : Stv) (y : Pv) (hd : x.ds.length ≤ 90000) (hl : x.ls.length ≤ 90000) (hp : ∀ p ∈ x.ls, p.1.2.length ≤ 90000) (hn : y.fl.length ≤ 90000) (hr : y.rp.length ≤ 90000) (w : World) (hx : InSt w x) (hy : InP w y) :
    Calls Tryz.prog 26 #[agS x, agP y] w (LostPost w (lostTo x.ds y.nm y.rp (placesL x.ds y.nm y.fl) x.ls x.ls.length)) := by
  obtain ⟨i0, hi, hz0, hz1, hz2'⟩ := info_parts infoL
  obtain ⟨w2, hw2, hz2, b2, c7, c11⟩ := two_boxes x y w
  have PL : Hid (Calls Tryz.prog 52 #[agS x, agP y] w2 fun e w' => ∃ r, e = .returned r ∧ OwnT w' w2.heap.size r (placesL x.ds y.nm y.fl) ∧ Below w2.heap.size w2 w') := Lib.hid (places_any x hd y hn w2 (hx.on b2) (hy.on b2))
  have hal : (placesL x.ds y.nm y.fl).length ≤ 90000 := Nat.le_trans (places_len _ _ _) hn
  obtain ⟨ats, hats⟩ : ∃ ats, placesL x.ds y.nm y.fl = ats := ⟨_, rfl⟩
  rw [hats] at PL hal ⊢
  have FI : Hid (∀ W (k : ByteArray), Below w2.heap.size w2 W → Calls Tryz.prog 57 #[x.lv, .string k] W fun e w' => e = .returned (.int .i64 (idxGxT x.ls (nameIs k.data.toList))) ∧ Below W.heap.size W w') := Lib.hid (fun W k hb => find13_any x.lv x.ls hl k W ((hx.on (b2.trans (hb.mono b2.size))).ls))
  have CT : Hid (∀ W (q : ByteArray), Below w2.heap.size w2 W → Calls Tryz.prog 53 #[y.rv, .string q] W fun e w' => e = .returned (.bool (decide (q.data.toList ∈ y.rp))) ∧ W = w') := Lib.hid (fun W q hb => contains_any y.rv y.rp hr q W ((hy.on (b2.trans (hb.mono b2.size))).rp))
  have LO : Hid (∀ W (nm : ByteArray) (pv u : Value) (ps : List Bs), Below w2.heap.size w2 W → ps.length ≤ 90000 → HoldT W pv ps → HoldT W u ats → Calls Tryz.prog 49 #[agS x, .agg #[.string nm, pv], u] W fun e w' => ∃ r, e = .returned r ∧ OwnT w' W.heap.size r (locL x.ds nm.data.toList ps ats) ∧ Below W.heap.size W w') := Lib.hid (fun W nm pv u ps hb h1 h2 h3 => located_any x hd nm pv ps h1 u ats hal W (hx.on (b2.trans (hb.mono b2.size))) h2 h3)
  have C7 : Hid (∀ W, Below w2.heap.size w2 W → Cell7 w.heap.size W x) := Lib.hid (fun W hb => c7.on hb)
  have C11 : Hid (∀ W, Below w2.heap.size w2 W → Cell11 (w.heap.size + 1) W y) := Lib.hid (fun W hb => c11.on hb)
  obtain ⟨hin, a, c, b, o, hlv', hc, ha, hcell⟩ := (hx.on b2).ls
  have HI := Lib.hid hin
  have HC := Lib.hid hcell
  have HP := Lib.hid hp
  obtain ⟨⟨⟨ra, rc, -, -, hrv, -⟩, -⟩, ⟨oa, on, oc, hov⟩, ⟨aa, an, ac, hav⟩, ⟨ia, im, ic, hiv⟩, ⟨fa, fn, fc, hfv⟩, ⟨da, dn, dc, hdv⟩, -⟩ := inS7_of hx
  obtain ⟨⟨pda, pdc, _, _, pdv, -⟩, -⟩ := hy.dp
  obtain ⟨pca, pcc, _, _, pcv, -⟩ := hy.cn
  obtain ⟨pra, prc, _, _, prv, -⟩ := hy.rp
  obtain ⟨pfa, pfc, _, _, pfv, -⟩ := hy.fl
  obtain ⟨pia, pic, _, _, piv, -⟩ := hy.it
  obtain ⟨⟨pa0, pc0, _, _, pv0, -⟩, -⟩ := hy.s0
  obtain ⟨⟨pa1, pc1, _, _, pv1, -⟩, -⟩ := hy.s1
  obtain ⟨⟨pa2, pc2, _, _, pv2, -⟩, -⟩ := hy.s2
  obtain ⟨⟨pa3, pc3, _, _, pv3, -⟩, -⟩ := hy.s3
  have HB2 := Lib.hid b2
  have HW2 := Lib.hid hw2
  have HZ2 := Lib.hid hz2
  obtain ⟨n, hN⟩ : ∃ n, x.ls.length = n := ⟨_, rfl⟩
  rw [hN] at hlv' hc ha hl ⊢
  have HN := Lib.hid hN
  obtain ⟨F, hF⟩ : ∃ F : Nat → List Ls, (fun k => lostTo x.ds y.nm y.rp ats x.ls k) = F := ⟨_, rfl⟩
  have HF0 : Hid (F 0 = []) := Lib.hid (by rw [← hF]; rfl)
  have HTK : Hid (∀ k p, x.ls[k]? = some p → F (k + 1) = F k ++ (if losB y.nm y.rp x.ls k p = true ∧ 0 < (locL x.ds p.1.1 p.1.2 ats).length then [(p.1.1, locL x.ds p.1.1 p.1.2 ats)] else []) ∧ (F k).length ≤ k) := Lib.hid (fun k p h => by
    rw [← hF]
    exact ⟨lostTo_next h, lostTo_len _ _ _ _ _ _⟩)
  have HFE : Hid (F n = lostTo x.ds y.nm y.rp ats x.ls n) := Lib.hid (by rw [← hF])
  obtain ⟨RES, hRES⟩ : ∃ q, lostTo x.ds y.nm y.rp ats x.ls n = q := ⟨_, rfl⟩
  rw [hRES] at HFE ⊢
  clear hF hRES hcell hin hN hx hy b2 hw2 hz2 hd c7 c11 hats hp hal
  obtain ⟨rs, ds, ls, rv, dv, ov, av, iv, fv, lv⟩ := x
  obtain ⟨nm, vr, dp, cn, rp, fl, it, s0, s1, s2, s3, qdv, qcv, qrv, qfv, qiv, v0, v1, v2, v3⟩ := y
  unfold agS agP
  unfold agS agP at PL
  unfold agS at LO
  unfold Cell7 at C7
  unfold Cell11 at C11
  dsimp only at *
  subst hrv hov hav hiv hfv hdv hlv' pdv pcv prv pfv piv pv0 pv1 pv2 pv3
  simp only [List.length_map] at *
  generalize rs.length = rn at *
  generalize dp.length = dpn at *
  generalize cn.length = cnn at *
  generalize it.length = itn at *
  generalize fl.length = fln at *
  generalize s0.length = sn0 at *
  generalize s1.length = sn1 at *
  generalize s2.length = sn2 at *
  generalize s3.length = sn3 at *
  generalize rp.length = rpn at *
  have hNMt : (⟨nm.toArray⟩ : ByteArray).data.toList = nm := by simp
  generalize (⟨nm.toArray⟩ : ByteArray) = NM at *
  have HNM := Lib.hid hNMt
  clear hNMt
  generalize (⟨vr.toArray⟩ : ByteArray) = VR at *
  go_enter Tryz.func26, Tryz.ntmps26
  have hw2 := HW2.out
  obtain ⟨d0, d1, d2, d3, d4, d5, d6⟩ := C7.out w2 (Below.refl _ _)
  obtain ⟨p0, p1, p2, p3, p4, p5, p6, p7, p8, p9, p10⟩ := C11.out w2 (Below.refl _ _)
  go_wp2_with (go_at_call 52; (with_reducible refine PL.out.mono ?_); rintro e w3 ⟨r, rfl, ho, hb⟩; obtain ⟨ra4, rn4, rc4, hrf, hrl⟩ := ownT_len ho; subst hrf; clear hrl; obtain ⟨t0, t1, t2, t3, t4, t5, t6⟩ := C7.out _ hb; have HO3 := Lib.hid ho; have HB3 := Lib.hid hb; clear ho hb PL)
  have B23 : Hid (∀ W, Below w3.heap.size w3 W → Below w2.heap.size w2 W) := Lib.hid (fun W hb => HB3.out.trans (hb.mono HB3.out.size))
  have hs3 := HB3.out.size
  go_loopw [5, 17] (fun u i wr => ∃ (k : Nat) (M : List Lp), k ≤ n ∧ i = .int .i64 k ∧ Hid (OwnM wr w3.heap.size u M) ∧ Hid (M.map (·.1) = F k) ∧ Hid (Below w3.heap.size w3 wr)) (fun _ i _ => n - (intOf i).toNat)
  case atStart => exact ⟨0, [], by omega, rfl, Lib.hid (OwnM.nil _ _), Lib.hid (by rw [HF0.out]; rfl), Lib.hid (Below.refl _ _)⟩
  case round =>
    obtain ⟨k, M, hk, rfl, HO, HM, HB⟩ := hrel
    have hsz := HB.out.size
    have e7 := C7.out wr (B23.out wr HB.out)
    obtain ⟨d0, d1, d2, d3, d4, d5, d6⟩ := e7
    by_cases hlt : k < n
    · obtain ⟨rfl, hbw⟩ := ha (by omega)
      obtain ⟨p, hpx⟩ : ∃ p, ls[k]? = some p := ⟨_, List.getElem?_eq_getElem (by rw [HN.out]; exact hlt)⟩
      obtain ⟨c0, c1⟩ := HC.out k p hpx
      have hpm := List.mem_of_getElem? hpx
      have HPI := Lib.hid (HI.out p hpm)
      have HPN := Lib.hid (HP.out p hpm)
      obtain ⟨htk, hlen⟩ := HTK.out k p hpx
      have hML : M.length ≤ 90000 := by have := congrArg List.length HM.out; rw [List.length_map] at this; omega
      rw [← (B23.out wr HB.out).cell (p := ⟨b, o + k * 2, none⟩) hbw] at c0
      rw [← (B23.out wr HB.out).cell (p := ⟨b, o + k * 2 + 1, none⟩) hbw] at c1
      obtain ⟨pa, pn, pc, hu⟩ := HoldT.form2 HPI.out
      rw [hu] at c1
      obtain ⟨X, hX⟩ : ∃ X : ByteArray, bsT p.1.1 = X := ⟨_, rfl⟩
      have hXL : X.data.toList = p.1.1 := by rw [← hX]
      rw [hX] at c0
      obtain ⟨x0, x1⟩ := boxV2U wr (.string X) (.slice pa pn pc) 63
      have HBx := Lib.hid (HB.out.alloc hsz (.cells #[.string X, .slice pa pn pc] 63))
      have hbx := (Below.refl wr.heap.size wr).alloc (Nat.le_refl _) (.cells #[.string X, .slice pa pn pc] 63)
      have HOx := Lib.hid (HO.out.on hbx)
      have hbx3 := HBx.out
      obtain ⟨E0, E1, E2, E3, E4, E5, E6⟩ := C7.out _ (B23.out _ hbx3)
      have HXC : Hid (∀ W, Below (wr.alloc (.cells #[.string X, .slice pa pn pc] 63)).heap.size (wr.alloc (.cells #[.string X, .slice pa pn pc] 63)) W → W.cell? ⟨wr.heap.size, 0, none⟩ = some (.string X) ∧ W.cell? ⟨wr.heap.size, 1, none⟩ = some (.slice pa pn pc)) := Lib.hid (fun W hb => ⟨(hb.cell (p := ⟨wr.heap.size, 0, none⟩) (by simp)).trans x0, (hb.cell (p := ⟨wr.heap.size, 1, none⟩) (by simp)).trans x1⟩)
      have F1 := FI.out _ X (B23.out _ hbx3)
      rw [hXL] at F1
      obtain ⟨z, hz⟩ : ∃ z, idxGxT ls (nameIs p.1.1) = z := ⟨_, rfl⟩
      rw [hz] at F1
      have he := eqT X NM
      rw [hXL, HNM.out] at he
      have hlb : losB nm rp ls k p = (decide (z = (k : Int)) && !decide (p.1.1 = nm) && decide (p.1.1 ∈ rp)) := by unfold losB; rw [hz]
      rw [hlb] at htk
      have HC4 : Hid (∀ W, Below (wr.alloc (.cells #[.string X, .slice pa pn pc] 63)).heap.size (wr.alloc (.cells #[.string X, .slice pa pn pc] 63)) W → Below w3.heap.size w3 W) := Lib.hid (fun W hb => hbx3.trans (hb.mono hbx3.size))
      have HCT : Hid (∀ W, Below w3.heap.size w3 W → Calls Tryz.prog 53 #[.slice pra rpn prc, .string X] W fun e w' => e = .returned (.bool (decide (p.1.1 ∈ rp))) ∧ W = w') := Lib.hid (fun W hb => by have := CT.out W X (B23.out W hb); rw [hXL] at this; exact this)
      have HLO : Hid (∀ W, Below w3.heap.size w3 W → Below wr.heap.size wr W → Calls Tryz.prog 49 #[.agg #[.slice ra rn rc, .slice da dn dc, .slice oa on oc, .slice aa an ac, .slice ia im ic, .slice fa fn fc, .slice (some ⟨b, o, none⟩) n c], .agg #[.string X, .slice pa pn pc], .slice ra4 rn4 rc4] W fun e w' => ∃ r, e = .returned r ∧ OwnT w' W.heap.size r (locL ds p.1.1 p.1.2 ats) ∧ Below W.heap.size W w') := Lib.hid (fun W hb hb2 => by
        have hbB : Below w2.heap.size w2 wr := B23.out wr HB.out
        have := LO.out W X (.slice pa pn pc) (.slice ra4 rn4 rc4) p.1.2 (B23.out W hb) HPN.out (by rw [← hu]; exact HPI.out.on ((hbB).trans (hb2.mono hbB.size))) (HO3.out.on hb).holds
        rw [hXL] at this; exact this)
      have HXL := Lib.hid (And.intro hX hXL)
      obtain ⟨q1, hq1⟩ : ∃ q, decide (z = (k : Int)) = q := ⟨_, rfl⟩
      obtain ⟨q2, hq2⟩ : ∃ q, decide (p.1.1 = nm) = q := ⟨_, rfl⟩
      obtain ⟨q3, hq3⟩ : ∃ q, decide (p.1.1 ∈ rp) = q := ⟨_, rfl⟩
      rw [hq1, hq2, hq3] at htk
      rw [hq2] at he
      rw [hq3] at HCT
      have hzk : (z == (k : Int)) = q1 := by rw [← hq1]; cases hd : decide (z = (k : Int)) <;> simp_all
      have HTK1 := Lib.hid htk
      have HCA : Hid (∀ W, Below w3.heap.size w3 W → Cell7 w.heap.size W ⟨rs, ds, ls, .slice ra rn rc, .slice da dn dc, .slice oa on oc, .slice aa an ac, .slice ia im ic, .slice fa fn fc, .slice (some ⟨b, o, none⟩) n c⟩ ∧ W.cell? ⟨w.heap.size + 1, 0, none⟩ = some (.string NM) ∧ W.cell? ⟨w.heap.size + 1, 4, none⟩ = some (.slice pra rpn prc)) := Lib.hid (fun W hb => by
        have g := C11.out W (B23.out W hb)
        exact ⟨C7.out W (B23.out W hb), g.1, g.2.2.2.2.1⟩)
      unfold Cell7 at HCA
      dsimp only at HCA
      clear hlb htk hq1 hq2 hq3 hz hu hX hXL hpx hpm hbx hlen
      have hNO : Hid (q1 = false ∨ q2 = true ∨ q3 = false → F (k + 1) = F k) := Lib.hid (fun h => by rw [HTK1.out]; rcases h with rfl | rfl | rfl <;> simp)
      have hYES : Hid (q1 = true → q2 = false → q3 = true → 0 < (locL ds p.1.1 p.1.2 ats).length → F (k + 1) = F k ++ [(p.1.1, locL ds p.1.1 p.1.2 ats)]) := Lib.hid (fun h1 h2 h3 h4 => by rw [HTK1.out]; simp [h1, h2, h3, h4])
      have hYES0 : Hid (¬ 0 < (locL ds p.1.1 p.1.2 ats).length → F (k + 1) = F k) := Lib.hid (fun h4 => by rw [HTK1.out]; simp [h4])
      have hll : (locL ds p.1.1 p.1.2 ats).length ≤ 90000 := Nat.le_trans (loc_len _ _ _ _) HPN.out
      obtain ⟨LL, hLL⟩ : ∃ q, locL ds p.1.1 p.1.2 ats = q := ⟨_, rfl⟩
      rw [hLL] at HLO hYES hYES0 hll
      clear hLL
      cases q1
      · go_wp2_with (go_at_call 57; (with_reducible refine F1.mono ?_); rintro e w4 ⟨rfl, hb⟩; have HB4 := Lib.hid (HC4.out _ hb); have HO4 := Lib.hid (HOx.out.on hb); clear hb F1)
        go_roundw
        case rel => exact ⟨k + 1, M, by omega, by go_num, HO4, Lib.hid (by rw [hNO.out (by simp)]; exact HM.out), HB4⟩
        case measure => simp [intOf]; omega
      cases q2
      rotate_left
      · go_wp2_with (go_at_call 57; (with_reducible refine F1.mono ?_); rintro e w4 ⟨rfl, hb⟩; have HB4 := Lib.hid (HC4.out _ hb); have HO4 := Lib.hid (HOx.out.on hb); obtain ⟨⟨g0, g1, g2, g3, g4, g5, g6⟩, gp0, gp4⟩ := HCA.out _ HB4.out; obtain ⟨y0, y1⟩ := HXC.out _ hb; clear hb F1)
        go_roundw
        case rel => exact ⟨k + 1, M, by omega, by go_num, HO4, Lib.hid (by rw [hNO.out (by simp)]; exact HM.out), HB4⟩
        case measure => simp [intOf]; omega
      cases q3
      · go_wp2_with (first
          | (go_at_call 57; (with_reducible refine F1.mono ?_); rintro e w4 ⟨rfl, hb⟩; have HB4 := Lib.hid (HC4.out _ hb); have HO4 := Lib.hid (HOx.out.on hb); obtain ⟨⟨g0, g1, g2, g3, g4, g5, g6⟩, gp0, gp4⟩ := HCA.out _ HB4.out; obtain ⟨y0, y1⟩ := HXC.out _ hb; clear hb F1)
          | (go_at_call 53; (with_reducible refine (HCT.out _ HB4.out).mono ?_); rintro e w5 ⟨rfl, rfl⟩))
        go_roundw
        case rel => exact ⟨k + 1, M, by omega, by go_num, HO4, Lib.hid (by rw [hNO.out (by simp)]; exact HM.out), HB4⟩
        case measure => simp [intOf]; omega
      by_cases h0 : 0 < LL.length
      · have HF1 := Lib.hid (hYES.out rfl rfl rfl h0)
        have hgt : Hid (0 < LL.length) := Lib.hid h0
        go_wp2_with (first
          | (go_at_call 57; (with_reducible refine F1.mono ?_); rintro e w4 ⟨rfl, hb⟩; have HB4 := Lib.hid (HC4.out _ hb); have HBr := Lib.hid (((Below.refl wr.heap.size wr).alloc (Nat.le_refl _) (.cells #[.string X, .slice pa pn pc] 63)).trans (hb.mono (by simp))); have HO4 := Lib.hid (HOx.out.on hb); obtain ⟨⟨g0, g1, g2, g3, g4, g5, g6⟩, gp0, gp4⟩ := HCA.out _ HB4.out; obtain ⟨y0, y1⟩ := HXC.out _ hb; have HX4 := Lib.hid hb; clear hb F1)
          | (go_at_call 53; (with_reducible refine (HCT.out _ HB4.out).mono ?_); rintro e w5 ⟨rfl, rfl⟩)
          | (go_at_call 49; (with_reducible refine (HLO.out _ HB4.out HBr.out).mono ?_); rintro e w6 ⟨r6, rfl, ho6, hb⟩; obtain ⟨ra6, rn6, rc6, hr6, hrl6⟩ := ownT_len ho6; subst hr6; subst hrl6; have HX6 := HXC.out _ (HX4.out.trans (hb.mono HX4.out.size)); have HP6 := Lib.hid (OwnT.mono ho6 (Nat.le_trans HB4.out.size (Nat.le_refl _))); have HO6 := Lib.hid (HO4.out.on hb); have HB6 := Lib.hid (HB4.out.trans (hb.mono HB4.out.size)); have hs6 := HB6.out.size; clear hb ho6)
          | (at_builtin; refine wpList_append_own _ rfl _ _ 28 rfl w3.heap.size 63 i0 _ 2 40 Tryz.underlying28 hi hz0 hz1 hz2' rfl (by decide) _ _ _ rfl (World.ownsRow.alloc HO6.out.1 _) ⟨w6.heap.size, 0, none⟩ 1 1 [.string X, .slice ra6 LL.length rc6] rfl rfl ?c1 ?c2 ?c3 ?c4 ?c5 ?_))
        case c1 =>
          intro j u hj
          match j, hj with
          | 0, hj => simp at hj; subst hj; simp [Addr.add]
          | 1, hj => simp at hj; subst hj; simp [Addr.add]
        case c2 => intro u hu; simp at hu; rcases hu with rfl | rfl <;> rfl
        case c3 => unfold maxLen; omega
        case c4 => omega
        case c5 => simp; omega
        intro v' w7 hown' hgrow _
        have HO7 : Hid (OwnM w7 w3.heap.size v' (M ++ [((p.1.1, LL), .slice ra6 LL.length rc6)])) := Lib.hid (OwnM.app HO6.out HP6.out HXL.out.1 rfl hgrow (by simpa using hown'))
        have HB7 : Hid (Below w3.heap.size w3 w7) := Lib.hid (OwnC.below HB6.out HO6.out.1 hgrow (Nat.le_refl _) hs6)
        clear hown' hgrow
        go_wp2
        go_roundw
        case rel => exact ⟨k + 1, M ++ [((p.1.1, LL), .slice ra6 LL.length rc6)], by omega, by go_num, HO7, Lib.hid (by rw [HF1.out, List.map_append, HM.out]; rfl), HB7⟩
        case measure => simp [intOf]; omega
      · have HF1 := Lib.hid (hYES0.out h0)
        have h00 : LL.length = 0 := by omega
        go_wp2_with (first
          | (go_at_call 57; (with_reducible refine F1.mono ?_); rintro e w4 ⟨rfl, hb⟩; have HB4 := Lib.hid (HC4.out _ hb); have HBr := Lib.hid (((Below.refl wr.heap.size wr).alloc (Nat.le_refl _) (.cells #[.string X, .slice pa pn pc] 63)).trans (hb.mono (by simp))); have HO4 := Lib.hid (HOx.out.on hb); obtain ⟨⟨g0, g1, g2, g3, g4, g5, g6⟩, gp0, gp4⟩ := HCA.out _ HB4.out; obtain ⟨y0, y1⟩ := HXC.out _ hb; have HX4 := Lib.hid hb; clear hb F1)
          | (go_at_call 53; (with_reducible refine (HCT.out _ HB4.out).mono ?_); rintro e w5 ⟨rfl, rfl⟩)
          | (go_at_call 49; (with_reducible refine (HLO.out _ HB4.out HBr.out).mono ?_); rintro e w6 ⟨r6, rfl, ho6, hb⟩; obtain ⟨ra6, rn6, rc6, hr6, hrl6⟩ := ownT_len ho6; subst hr6; rw [h00] at hrl6; subst hrl6; have HO6 := Lib.hid (HO4.out.on hb); have HB6 := Lib.hid (HB4.out.trans (hb.mono HB4.out.size)); clear hb ho6))
        go_roundw
        case rel => exact ⟨k + 1, M, by omega, by go_num, HO6, Lib.hid (by rw [HF1.out]; exact HM.out), HB6⟩
        case measure => simp [intOf]; omega
    · have hkn : k = n := by omega
      subst hkn
      have HFIN := Lib.hid (show LostPost w RES (.returned _) wr from ⟨_, M, rfl, by rw [HM.out, HFE.out], HO.out.mono (by have := HZ2.out; omega), HB2.out.trans ((HB3.out.trans (HB.out.mono HB3.out.size)).mono HB2.out.size)⟩)
      clear hlt
      go_wp2
      first | (go_ret; exact HFIN.out) | exact HFIN.out
end Go.Proofs.YtkcamfcjkjiijaaGreatDoor
