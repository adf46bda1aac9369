/-
  check.Conflicts: with whom a package may not be; nothing old turns. Condition: LaidV.
-/
import Derived.Test.YtkcamfcjkjiijaaGreatDoorPEcNames
import Derived.Test.YtkcamfcjkjiijaaGreatDoorPEcLost
import Derived.Test.YtkcamfcjkjiijaaGreatDoorPOdMath
import Derived.Test.YtkcamfcjkjiijaaGreatDoorPEcTkn
namespace Go.Proofs.YtkcamfcjkjiijaaGreatDoor
open Go.RowKit Go.Shelf
/-- Relations whose versions are of some size. -/
def VerQ (l : List Rl) : Prop := ∀ x ∈ l, x.2.2.length ≤ 4000
def fitsL (l : List Rl) (n v : Bs) : Bool := l.any fun x => fitsB x n v
set_option maxRecDepth 100000 in
set_option maxHeartbeats 8000000 in
theorem anyf1_any (x : Rl) (hx : x.2.2.length ≤ 4000) (n v : ByteArray) (hv : v.size ≤ 4000) (A B : Nat) (w : World) (hL : LaidV w) (hA : w.cell? ⟨A, 0, none⟩ = some (.string n)) (hB : w.cell? ⟨B, 0, none⟩ = some (.string v)) :
    Calls Tryz.prog 75 #[aggQ x, .pointer (some ⟨A, 0, none⟩), .pointer (some ⟨B, 0, none⟩)] w fun e w' => e = .returned (.bool (fitsB x n.data.toList v.data.toList)) ∧ Below w.heap.size w w' := by
  have F : ∀ W, LaidV W → Calls Tryz.prog 76 #[.agg #[.string (bsT x.1), .string (bsT x.2.1), .string (bsT x.2.2)], .string n, .string v] W fun e w' => e = .returned (.bool (fitsB x n.data.toList v.data.toList)) ∧ Below W.heap.size W w' := fun W h => by
    have := fits_any (bsT x.1) (bsT x.2.1) (bsT x.2.2) n v (by rw [sizeOf, bytesOf]; exact hx) hv W h
    simpa using this
  have hga := World.block_lt_of_cell? w _ hA
  have hgb := World.block_lt_of_cell? w _ hB
  have HBA : Hid (∀ o, Below w.heap.size w (w.alloc o)) := Lib.hid (fun o => (Below.refl _ _).alloc (Nat.le_refl _) o)
  have HLA := Lib.hid (fun o => hL.on (HBA.out o))
  have k0 := fun o => (HBA.out o).cell (p := ⟨A, 0, none⟩) hga
  have k1 := fun o => (HBA.out o).cell (p := ⟨B, 0, none⟩) hgb
  rw [hA] at k0
  rw [hB] at k1
  obtain ⟨p, q, z⟩ := x
  dsimp only at F ⊢
  unfold aggQ
  dsimp only
  generalize fitsB (p, q, z) n.data.toList v.data.toList = r at *
  generalize bsT p = P at *
  generalize bsT q = Q at *
  generalize bsT z = Z at *
  clear hL hA hB hx hga hgb
  go_enter Tryz.func75, Tryz.ntmps75
  go_wp2_with (go_at_call 76; (with_reducible refine (F _ (HLA.out _)).mono ?_); rintro e w1 ⟨rfl, hb⟩; have HB := Lib.hid ((HBA.out _).trans (hb.mono (HBA.out _).size)); clear hb)
  go_ret
  exact ⟨rfl, HB.out⟩
set_option maxRecDepth 100000 in
set_option maxHeartbeats 8000000 in
theorem anyFits_any (u : Value) (l : List Rl) (hl : l.length ≤ 90000) (hq : VerQ l) (n v : ByteArray) (hv : v.size ≤ 4000) (w : World) (h : HoldQ w u l) (hL : LaidV w) :
    Calls Tryz.prog 45 #[u, .string n, .string v] w fun e w' => e = .returned (.bool (fitsL l n.data.toList v.data.toList)) ∧ Below w.heap.size w w' := by
  obtain ⟨wa, hwa⟩ : ∃ wa, w.alloc (.cells #[.string n] 9) = wa := ⟨_, rfl⟩
  have ba : Below w.heap.size w wa := by rw [← hwa]; exact (Below.refl w.heap.size w).alloc (Nat.le_refl _) _
  have za : wa.heap.size = w.heap.size + 1 := by rw [← hwa]; simp
  have ca : wa.cell? ⟨w.heap.size, 0, none⟩ = some (.string n) := by rw [← hwa]; exact boxV1C _ _ _
  obtain ⟨wb, hwb⟩ : ∃ wb, wa.alloc (.cells #[.string v] 9) = wb := ⟨_, rfl⟩
  have bb : Below wa.heap.size wa wb := by rw [← hwb]; exact (Below.refl wa.heap.size wa).alloc (Nat.le_refl _) _
  have cb : wb.cell? ⟨w.heap.size + 1, 0, none⟩ = some (.string v) := by rw [← za, ← hwb]; exact boxV1C _ _ _
  have cab : wb.cell? ⟨w.heap.size, 0, none⟩ = some (.string n) := (bb.cell (p := ⟨w.heap.size, 0, none⟩) (show w.heap.size < wa.heap.size by omega)).trans ca
  have b2 : Below w.heap.size w wb := ba.trans (bb.mono ba.size)
  have zb : wb.heap.size = w.heap.size + 2 := by rw [← hwb, World.size_alloc, za]
  have C := (contQ_any 75 #[.pointer (some ⟨w.heap.size, 0, none⟩), .pointer (some ⟨w.heap.size + 1, 0, none⟩)] (enters_of Tryz.func75 (by kernel_rfl) rfl) (fun x => fitsB x n.data.toList v.data.toList) u l hl wb (HoldV.on h b2) (fun W x hx hb => by
    have := anyf1_any x (hq x hx) n v hv w.heap.size (w.heap.size + 1) W ((hL.on b2).on hb) ((hb.cell (p := ⟨w.heap.size, 0, none⟩) (show w.heap.size < wb.heap.size by omega)).trans cab) ((hb.cell (p := ⟨w.heap.size + 1, 0, none⟩) (show w.heap.size + 1 < wb.heap.size by omega)).trans cb)
    simpa using this)).mono (fun e w' (h : _ ∧ _) => (⟨h.1, b2.trans (h.2.mono b2.size)⟩ : _ ∧ Below w.heap.size w w'))
  obtain ⟨a, c, b, o, rfl, -⟩ := h.parts
  obtain ⟨r, hr⟩ : ∃ r, fitsL l n.data.toList v.data.toList = r := ⟨_, rfl⟩
  have hr' : (l.any fun x => fitsB x n.data.toList v.data.toList) = r := hr
  rw [hr'] at C
  rw [hr]
  generalize l.length = m at *
  clear hr hr' h hL hq hl hv ba bb ca cb cab b2
  go_enter Tryz.func45, Tryz.ntmps45
  go_wp2_with (go_at_call 69; (with_reducible refine C.mono ?_); rintro e w1 ⟨rfl, hb⟩; have HB := Lib.hid hb; clear hb)
  go_ret
  exact ⟨rfl, HB.out⟩
/-- Whether a record is against a package. -/
def confl (y : Pv) (r : Uv) : Bool := !decide (r.nm = y.nm) && !decide (r.st = 1) && (fitsL y.cn r.nm r.vr || fitsL r.cn y.nm y.vr)
structure SmallC (r : Uv) : Prop where
  vr : r.vr.length ≤ 4000
  cl : r.cn.length ≤ 90000
  cq : VerQ r.cn
set_option maxRecDepth 100000 in
set_option maxHeartbeats 16000000 in
theorem conf1_any (y : Pv) (hyv : y.vr.length ≤ 4000) (hyl : y.cn.length ≤ 90000) (hyq : VerQ y.cn) (B : Nat) (r : Uv) (hr : SmallC r) (W : World) (hB : Cell11 B W y) (hy : InP W y) (hi : InU W r) (hL : LaidV W) :
    Calls Tryz.prog 44 #[agZU r, .pointer (some ⟨B, 0, none⟩)] W fun e w' => e = .returned (.bool (confl y r)) ∧ Below W.heap.size W w' := by
  have b0 := (Below.refl W.heap.size W).alloc (Nat.le_refl _) (.cells #[.string (⟨r.nm.toArray⟩ : ByteArray), .string (⟨r.vr.toArray⟩ : ByteArray), .int .i64 r.st, r.dv, r.cv, r.rv, r.fv, r.pv, r.av] 71)
  obtain ⟨y0, y1, y2, -, y4, -, -, -, -⟩ := boxV9 W (.string (⟨r.nm.toArray⟩ : ByteArray)) (.string (⟨r.vr.toArray⟩ : ByteArray)) (.int .i64 r.st) r.dv r.cv r.rv r.fv r.pv r.av 71
  obtain ⟨w1, hw1⟩ : ∃ w1, W.alloc (.cells #[.string (⟨r.nm.toArray⟩ : ByteArray), .string (⟨r.vr.toArray⟩ : ByteArray), .int .i64 r.st, r.dv, r.cv, r.rv, r.fv, r.pv, r.av] 71) = w1 := ⟨_, rfl⟩
  rw [hw1] at b0 y0 y1 y2 y4
  have A1 : Hid (∀ V, Below w1.heap.size w1 V → Calls Tryz.prog 45 #[y.cv, .string (⟨r.nm.toArray⟩ : ByteArray), .string (⟨r.vr.toArray⟩ : ByteArray)] V fun e w' => e = .returned (.bool (fitsL y.cn r.nm r.vr)) ∧ Below V.heap.size V w') := Lib.hid (fun V hb => by
    have := anyFits_any y.cv y.cn hyl hyq (⟨r.nm.toArray⟩ : ByteArray) (⟨r.vr.toArray⟩ : ByteArray) (by rw [sizeOf, bytesOf]; exact hr.vr) V (hy.on (b0.trans (hb.mono b0.size))).cn (hL.on (b0.trans (hb.mono b0.size)))
    simpa using this)
  have A2 : Hid (∀ V, Below w1.heap.size w1 V → Calls Tryz.prog 45 #[r.cv, .string (⟨y.nm.toArray⟩ : ByteArray), .string (⟨y.vr.toArray⟩ : ByteArray)] V fun e w' => e = .returned (.bool (fitsL r.cn y.nm y.vr)) ∧ Below V.heap.size V w') := Lib.hid (fun V hb => by
    have := anyFits_any r.cv r.cn hr.cl hr.cq (⟨y.nm.toArray⟩ : ByteArray) (⟨y.vr.toArray⟩ : ByteArray) (by rw [sizeOf, bytesOf]; exact hyv) V (hi.on (b0.trans (hb.mono b0.size))).cn (hL.on (b0.trans (hb.mono b0.size)))
    simpa using this)
  have C11 : Hid (∀ V, Below w1.heap.size w1 V → Cell11 B V y) := Lib.hid (fun V hb => hB.on (b0.trans (hb.mono b0.size)))
  have Y9 : Hid (∀ V, Below w1.heap.size w1 V → V.cell? ⟨W.heap.size, 0, none⟩ = some (.string (⟨r.nm.toArray⟩ : ByteArray)) ∧ V.cell? ⟨W.heap.size, 1, none⟩ = some (.string (⟨r.vr.toArray⟩ : ByteArray)) ∧ V.cell? ⟨W.heap.size, 4, none⟩ = some r.cv) := Lib.hid (fun V hb => by
    have hl : W.heap.size < w1.heap.size := by rw [← hw1]; simp
    exact ⟨(hb.cell (p := ⟨W.heap.size, 0, none⟩) hl).trans y0, (hb.cell (p := ⟨W.heap.size, 1, none⟩) hl).trans y1, (hb.cell (p := ⟨W.heap.size, 4, none⟩) hl).trans y4⟩)
  obtain ⟨k0, k1, -, k3, -⟩ := C11.out w1 (Below.refl _ _)
  have he := eqT (⟨r.nm.toArray⟩ : ByteArray) (⟨y.nm.toArray⟩ : ByteArray)
  rw [show (⟨r.nm.toArray⟩ : ByteArray).data.toList = r.nm from by simp, show (⟨y.nm.toArray⟩ : ByteArray).data.toList = y.nm from by simp] at he
  have hq : confl y r = (!decide (r.nm = y.nm) && !decide (r.st = 1) && (fitsL y.cn r.nm r.vr || fitsL r.cn y.nm y.vr)) := rfl
  rw [hq]
  obtain ⟨⟨da, dc, -, -, hdv, -⟩, -⟩ := hi.dp
  obtain ⟨ca, cc, -, -, hcv, -⟩ := hi.cn
  obtain ⟨ra, rc, -, -, hrv, -⟩ := hi.rp
  obtain ⟨fa, fc, -, -, hfv, -⟩ := hi.cf
  obtain ⟨pa, pc, -, -, hpv, -⟩ := hi.pd
  obtain ⟨aa, ac, -, -, hav, -⟩ := hi.aw
  obtain ⟨ya, yc, -, -, hyc, -⟩ := hy.cn
  obtain ⟨q1, hq1⟩ : ∃ q, decide (r.nm = y.nm) = q := ⟨_, rfl⟩
  obtain ⟨f1, hf1⟩ : ∃ q, fitsL y.cn r.nm r.vr = q := ⟨_, rfl⟩
  obtain ⟨f2, hf2⟩ : ∃ q, fitsL r.cn y.nm y.vr = q := ⟨_, rfl⟩
  rw [hq1] at he
  rw [hf1] at A1
  rw [hf2] at A2
  rw [hq1, hf1, hf2]
  have HW1 := Lib.hid hw1
  have HB0 := Lib.hid b0
  unfold Cell11 at C11
  unfold agZU
  generalize (⟨r.nm.toArray⟩ : ByteArray) = RN at *
  generalize (⟨r.vr.toArray⟩ : ByteArray) = RV at *
  generalize (⟨y.nm.toArray⟩ : ByteArray) = YN at *
  generalize (⟨y.vr.toArray⟩ : ByteArray) = YV at *
  simp only [hdv, hcv, hrv, hfv, hpv, hav, hyc, List.length_map] at *
  generalize r.dp.length = n1 at *
  generalize r.cn.length = n2 at *
  generalize r.rp.length = n3 at *
  generalize r.cf.length = n4 at *
  generalize r.pd.length = n5 at *
  generalize r.aw.length = n6 at *
  generalize y.cn.length = n7 at *
  generalize r.st = st at *
  clear hq hdv hcv hrv hfv hpv hav hyc hq1 hf1 hf2 hw1 b0 hL hy hi hB hr hyv hyl hyq
  cases q1
  rotate_left
  · go_enter Tryz.func44, Tryz.ntmps44
    have hw1 := HW1.out
    go_wp2
    go_ret
    exact ⟨by simp, HB0.out⟩
  by_cases hst : st = 1
  · subst hst
    go_enter Tryz.func44, Tryz.ntmps44
    have hw1 := HW1.out
    go_wp2
    go_ret
    exact ⟨by simp, HB0.out⟩
  have hsb : (st == 1) = false := by simpa using hst
  have A1x := A1.out w1 (Below.refl _ _)
  have hdd : decide (st = 1) = false := decide_eq_false hst
  rw [hdd]
  go_enter Tryz.func44, Tryz.ntmps44
  have hw1 := HW1.out
  cases f1
  · go_wp2_with (first
      | (go_at_call 45; (with_reducible refine A1x.mono ?_); rintro e w2 ⟨rfl, hb⟩; have HB := Lib.hid (HB0.out.trans (hb.mono HB0.out.size)); have A2x := A2.out _ hb; obtain ⟨g0, g1, -⟩ := C11.out _ hb; obtain ⟨z0, z1, z4⟩ := Y9.out _ hb; clear hb)
      | (go_at_call 45; (with_reducible refine A2x.mono ?_); rintro e w3 ⟨rfl, hb⟩; have HBB := Lib.hid (HB.out.trans (hb.mono HB.out.size)); clear hb))
    go_ret
    exact ⟨by simp [hst], HBB.out⟩
  · go_wp2_with (go_at_call 45; (with_reducible refine A1x.mono ?_); rintro e w2 ⟨rfl, hb⟩; have HB := Lib.hid (HB0.out.trans (hb.mono HB0.out.size)); obtain ⟨g0, g1, -⟩ := C11.out _ hb; clear hb)
    go_ret
    exact ⟨by simp [hst], HB.out⟩
set_option maxRecDepth 100000 in
set_option maxHeartbeats 16000000 in
theorem conf_any (x : Stv) (y : Pv) (hn : x.rs.length ≤ 90000) (hr : ∀ r ∈ x.rs, SmallC r) (hyv : y.vr.length ≤ 4000) (hyl : y.cn.length ≤ 90000) (hyq : VerQ y.cn) (w : World) (hx : InSt w x) (hy : InP w y) (hL : LaidV w) :
    Calls Tryz.prog 19 #[agS x, agP y] w fun e w' => ∃ r, e = .returned r ∧ OwnT w' w.heap.size r (namesU x.rs (confl y)) ∧ Below w.heap.size w w' := by
  obtain ⟨w2, hw2, hz2, b2, c7, c11⟩ := two_boxes x y w
  have C := (namesOf_any 44 #[.pointer (some ⟨w.heap.size + 1, 0, none⟩)] (enters_of Tryz.func44 (by kernel_rfl) rfl) (confl y) x.rv x.rs hn w2 (hx.on b2).rs (fun W r hr' hW => by
    have := conf1_any y hyv hyl hyq (w.heap.size + 1) r (hr r hr') W (c11.on hW) ((hy.on b2).on hW) (((hx.on b2).rs.on hW).2 r hr') ((hL.on b2).on hW)
    simpa using this)).mono (fun e w' h => by
      obtain ⟨r, g1, g2, g3⟩ := h
      exact (⟨r, g1, g2.mono b2.size, b2.trans (g3.mono b2.size)⟩ : ∃ r, e = .returned r ∧ OwnT w' w.heap.size r (namesU x.rs (confl y)) ∧ Below w.heap.size w w'))
  obtain ⟨d0, -⟩ := c7
  obtain ⟨⟨⟨ra, rc, -, -, hrv, -⟩, -⟩, ⟨oa, on, oc, hov⟩, ⟨aa, an, ac, hav⟩, ⟨ia, im, ic, hiv⟩, ⟨fa, fn, fc, hfv⟩, ⟨da, dn, dc, hdv⟩, ⟨la, ln, lc, hlv⟩⟩ := inS7_of hx
  obtain ⟨⟨pda, pdc, _, _, pdv, -⟩, -⟩ := hy.dp
  obtain ⟨pca, pcc, _, _, pcv, -⟩ := hy.cn
  obtain ⟨pra, prc, _, _, prv, -⟩ := hy.rp
  obtain ⟨pfa, pfc, _, _, pfv, -⟩ := hy.fl
  obtain ⟨pia, pic, _, _, piv, -⟩ := hy.it
  obtain ⟨⟨pa0, pc0, _, _, pv0, -⟩, -⟩ := hy.s0
  obtain ⟨⟨pa1, pc1, _, _, pv1, -⟩, -⟩ := hy.s1
  obtain ⟨⟨pa2, pc2, _, _, pv2, -⟩, -⟩ := hy.s2
  obtain ⟨⟨pa3, pc3, _, _, pv3, -⟩, -⟩ := hy.s3
  obtain ⟨RES, hRES⟩ : ∃ q, namesU x.rs (confl y) = q := ⟨_, rfl⟩
  rw [hRES] at C ⊢
  have HW2 := Lib.hid hw2
  clear hRES hw2 hx hy hL hr hyq hyl hyv hn b2 c11 hz2
  obtain ⟨rs, ds, ls, rv, dv, ov, av, iv, fv, lv⟩ := x
  obtain ⟨nm, vr, dp, cn, rp, fl, it, s0, s1, s2, s3, qdv, qcv, qrv, qfv, qiv, v0, v1, v2, v3⟩ := y
  unfold agS agP
  dsimp only at *
  subst hrv hov hav hiv hfv hdv hlv pdv pcv prv pfv piv pv0 pv1 pv2 pv3
  simp only [List.length_map] at *
  generalize rs.length = rn at *
  generalize (⟨nm.toArray⟩ : ByteArray) = NM at *
  generalize (⟨vr.toArray⟩ : ByteArray) = VR at *
  go_enter Tryz.func19, Tryz.ntmps19
  have hw2 := HW2.out
  go_wp2_with (go_at_call 40; (with_reducible refine C.mono ?_); rintro e w5 ⟨r, rfl, h1, h2⟩; have HO2 := Lib.hid h1; have HB2 := Lib.hid h2; clear h1 h2 C)
  first | (go_ret; exact ⟨_, rfl, HO2.out, HB2.out⟩) | exact ⟨_, rfl, HO2.out, HB2.out⟩
end Go.Proofs.YtkcamfcjkjiijaaGreatDoor
