/-
  The walk of CheckLoses: behind what is lost nobody whom a package replaces has a path where a file of it is to be.
-/
import Derived.Test.YtkcamfcjkjiijaaGreatDoorGEcLost
import Derived.Test.YtkcamfcjkjiijaaGreatDoorGEcFr
import Derived.Test.YtkcamfcjkjiijaaGreatDoorGEcFewS
import Derived.Test.YtkcamfcjkjiijaaGreatDoorGTCheckL
namespace Go.Proofs.YtkcamfcjkjiijaaGreatDoor
open Go.RowKit Go.Shelf
theorem Left.small {ds : List Dv} {ats : List Bs} {L : List Lp} {M : List Ls} {done : List Bs} (h : Left ds ats L M done) {c : Nat} (hL : ∀ p ∈ L, p.1.2.length ≤ c) : ∀ x ∈ M, x.2.length ≤ c := fun x hx => by
  obtain ⟨k, hk⟩ := List.mem_iff_getElem?.1 hx
  have hkl : k < L.length := by have := (List.getElem?_eq_some_iff.1 hk).1; rw [h.len] at this; exact this
  obtain ⟨q', h1, -, -, h4, -⟩ := h.each k L[k] (List.getElem?_eq_getElem hkl)
  rw [hk] at h1
  obtain rfl := Option.some.inj h1
  exact Nat.le_trans h4 (hL _ (List.getElem_mem hkl))
theorem Left.smallM {ds : List Dv} {ats : List Bs} {L M : List Lp} {done : List Bs} (h : Left ds ats L (M.map (·.1)) done) {c : Nat} (hL : ∀ p ∈ L, p.1.2.length ≤ c) : ∀ x ∈ M, x.1.2.length ≤ c := fun x hx => h.small hL x.1 (List.mem_map.2 ⟨x, hx, rfl⟩)
theorem HoldL.parts {w : World} {v : Value} {L : List Lp} (h : HoldL w v L) : InT w L ∧ ∃ (a : Option Addr) (c b o : Nat), v = .slice a L.length c ∧ L.length ≤ c ∧ (0 < L.length → a = some ⟨b, o, none⟩ ∧ b < w.heap.size) ∧
    ∀ (j : Nat) p, L[j]? = some p → w.cell? ⟨b, o + j * 2, none⟩ = some (.string (bsT p.1.1)) ∧ w.cell? ⟨b, o + j * 2 + 1, none⟩ = some p.2 := h
theorem mem_places {ds : List Dv} {nm : Bs} {fl : List Fv} {f : Fv} (h : f ∈ fl) (hk : ¬ f.kd = 1) : toD ds f.pt nm ∈ placesL ds nm fl := by
  unfold placesL
  exact List.mem_map.2 ⟨f, by rw [List.mem_filter]; exact ⟨h, by unfold notDir; simpa using hk⟩, rfl⟩
theorem rp_len {y : Pv} (h : FewP y) : y.rp.length ≤ 90000 := Nat.le_trans (show y.rp.length ≤ 70 from h.rc.rl) (by decide)
theorem smallL_of {L : List Lp} (h : FewL L) : SmallL L := fun p hp => ⟨by have := (h.2.1 p hp).1; omega, by have := (h.2.1 p hp).2; omega, h.small hp⟩
def AskL (x : Stv) (w : World) : Prop := Calls Tryz.prog 28 #[x.lv] w fun e w' => (∃ z : Int, e = .returned (.int .i64 z) ∧ (z = 22 ∨ z = 0 ∨ z = 1) ∧ (z = 0 → Uniq x.ls)) ∧ Below w.heap.size w w'
theorem askL {x : Stv} (h : FewSt x) (w : World) (hP : LaidP w) (hx : InSt w x) : AskL x w :=
  (check13_any x.lv x.ls (by have := h.ls.1; omega) (smallL_of h.ls) w hP hx.ls).mono (fun e w' g => ⟨⟨_, g.1, check13_ways _, uniq_of⟩, g.2⟩)
set_option maxRecDepth 100000 in
set_option maxHeartbeats 16000000 in
theorem losesW (x : Stv) (y : Pv) (hfx : FitSt x) (hfy : FitP y) (w : World) (hL : LaidV w) (hP : LaidP w) (hx : InSt w x) (hy : InP w y) : Calls Tryz.prog 6 #[agS x, agP y] w fun e w' => e = .returned (.bool true) ∧ Below w.heap.size w w' := by
  obtain ⟨w2, hw2, hz2, b2, c7, c11⟩ := two_boxes x y w
  have FS : Hid (Calls Tryz.prog 7 #[agS x] w2 fun e w' => (∃ fb : Bool, e = .returned (.bool fb) ∧ (fb = true → FewSt x)) ∧ Below w2.heap.size w2 w') := Lib.hid (fewS_any x hfx w2 (hx.on b2))
  have FP : Hid (∀ W, Below w2.heap.size w2 W → Calls Tryz.prog 8 #[agP y] W fun e w' => (∃ fb : Bool, e = .returned (.bool fb) ∧ (fb = true → FewP y)) ∧ Below W.heap.size W w') := Lib.hid (fun W hb => fewP_any y hfy W (hy.on (b2.trans (hb.mono b2.size))))
  have CK : Hid (∀ W, FewSt x → Below w2.heap.size w2 W → AskL x W) := Lib.hid (fun W h hb => askL h W (hP.on (b2.trans (hb.mono b2.size))) (hx.on (b2.trans (hb.mono b2.size))))
  have AW : Hid (∀ W, Below w2.heap.size w2 W → Calls Tryz.prog 9 #[] W fun e w' => e = .returned (.bool true) ∧ Below W.heap.size W w') := Lib.hid (fun W hb => awake20 W (hL.on (b2.trans (hb.mono b2.size))))
  have LS : Hid (∀ W, FewSt x → FewP y → Below w2.heap.size w2 W → Calls Tryz.prog 26 #[agS x, agP y] W (LostPost W (lostTo x.ds y.nm y.rp (placesL x.ds y.nm y.fl) x.ls x.ls.length))) := Lib.hid (fun W h g hb => lost_any x y (by have := h.ds.1; omega) (by have := h.ls.1; omega) (fun p hp => by have := (h.ls.2.1 p hp).2; omega) (by have := g.fn; omega) (rp_len g) W (hx.on (b2.trans (hb.mono b2.size))) (hy.on (b2.trans (hb.mono b2.size))))
  have LZ : Hid (∀ W (v u : Value) (M : List Lp) (ps : List Bs) (N : ByteArray), M.length ≤ 90000 → (∀ q ∈ M, q.1.2.length ≤ 90000) → ps.length ≤ 90000 → HoldL W v M → HoldT W u ps → Calls Tryz.prog 29 #[v, .string N, u] W (LosePost M N.data.toList ps W)) := Lib.hid (fun W v u M ps N h1 h2 h3 h4 h5 => lose_any v u M ps h1 h2 h3 N W h4 h5)
  have TR : Hid (∀ W (q r : ByteArray), FewSt x → Below w2.heap.size w2 W → Calls Tryz.prog 30 #[x.dv, .string q, .string r] W (ToPost x.ds q.data.toList r.data.toList W)) := Lib.hid (fun W q r h hb => true_any x.dv x.ds (by have := h.ds.1; omega) q r W (hx.on (b2.trans (hb.mono b2.size))).ds)
  have HA : Hid (∀ W (q : ByteArray), FewP y → Below w2.heap.size w2 W → Calls Tryz.prog 31 #[y.rv, .string q] W fun e w' => e = .returned (.bool (decide (q.data.toList ∈ y.rp))) ∧ W = w') := Lib.hid (fun W q h hb => has13_any y.rv y.rp (rp_len h) q W (hy.on (b2.trans (hb.mono b2.size))).rp)
  have C7 : Hid (∀ W, Below w2.heap.size w2 W → Cell7 w.heap.size W x) := Lib.hid (fun W hb => c7.on hb)
  have C11 : Hid (∀ W, Below w2.heap.size w2 W → Cell11 (w.heap.size + 1) W y) := Lib.hid (fun W hb => c11.on hb)
  have HLS : Hid (HoldL w2 x.lv x.ls) := Lib.hid (hx.on b2).ls
  obtain ⟨fa', fc', fb', fo', hfv', hfc, hfa, hfcell⟩ := (hy.on b2).fl.parts
  have HFC := Lib.hid hfcell
  obtain ⟨n, hN⟩ : ∃ n, y.fl.length = n := ⟨_, rfl⟩
  rw [hN] at hfv' hfc hfa
  have HN := Lib.hid hN
  obtain ⟨⟨⟨ra, rc, -, -, hrv, -⟩, -⟩, ⟨oa, on, oc, hov⟩, ⟨aa, an, ac, hav⟩, ⟨ia, im, ic, hiv⟩, ⟨fa, fn, fc, hfv⟩, ⟨da, dn, dc, hdv⟩, ⟨la, ln, lc, hlv⟩⟩ := inS7_of hx
  obtain ⟨⟨pda, pdc, _, _, pdv, -⟩, -⟩ := hy.dp
  obtain ⟨pca, pcc, _, _, pcv, -⟩ := hy.cn
  obtain ⟨pra, prc, _, _, prv, -⟩ := hy.rp
  obtain ⟨pia, pic, _, _, piv, -⟩ := hy.it
  obtain ⟨⟨pa0, pc0, _, _, pv0, -⟩, -⟩ := hy.s0
  obtain ⟨⟨pa1, pc1, _, _, pv1, -⟩, -⟩ := hy.s1
  obtain ⟨⟨pa2, pc2, _, _, pv2, -⟩, -⟩ := hy.s2
  obtain ⟨⟨pa3, pc3, _, _, pv3, -⟩, -⟩ := hy.s3
  have HB2 := Lib.hid b2
  have HW2 := Lib.hid hw2
  have HZ2 := Lib.hid hz2
  obtain ⟨PS, hPS⟩ : ∃ q, FewSt x = q := ⟨_, rfl⟩
  have HPS : Hid (PS → FewSt x) := Lib.hid (fun h => by rw [hPS]; exact h)
  obtain ⟨PP, hPP⟩ : ∃ q, FewP y = q := ⟨_, rfl⟩
  have HPP : Hid (PP → FewP y) := Lib.hid (fun h => by rw [hPP]; exact h)
  rw [hPS] at FS CK LS TR
  rw [hPP] at FP LS HA
  have HPL : Hid (PS → x.ls.length ≤ 70 ∧ ∀ p ∈ x.ls, p.1.2.length ≤ 70) := Lib.hid (fun h => ⟨(HPS.out h).ls.1, fun p hp => ((HPS.out h).ls.2.1 p hp).2⟩)
  have HPF : Hid (PP → y.fl.length ≤ 40) := Lib.hid (fun h => (HPP.out h).fn)
  clear HPS HPP hPS hPP hfcell hN hx hy b2 hw2 hz2 c7 c11 hfx hfy hL hP
  unfold AskL at CK
  obtain ⟨rs, ds, ls, rv, dv, ov, av, iv, fv, lv⟩ := x
  obtain ⟨nm, vr, dp, cn, rp, fl, it, s0, s1, s2, s3, qdv, qcv, qrv, qfv, qiv, v0, v1, v2, v3⟩ := y
  unfold agS agP
  unfold agS at FS LS
  unfold agP at FP LS
  unfold Cell7 at C7
  unfold Cell11 at C11
  dsimp only at *
  subst hrv hov hav hiv hfv hdv hlv hfv' pdv pcv prv piv pv0 pv1 pv2 pv3
  simp only [List.length_map] at *
  generalize rs.length = rn at *
  generalize dp.length = dpn at *
  generalize cn.length = cnn at *
  generalize it.length = itn at *
  generalize s0.length = sn0 at *
  generalize s1.length = sn1 at *
  generalize s2.length = sn2 at *
  generalize s3.length = sn3 at *
  generalize rp.length = rpn at *
  have hNMt : (⟨nm.toArray⟩ : ByteArray).data.toList = nm := by simp
  generalize (⟨nm.toArray⟩ : ByteArray) = NM at *
  have HNM := Lib.hid hNMt
  clear hNMt
  generalize (⟨vr.toArray⟩ : ByteArray) = VR at *
  go_enter Tryz.func6, Tryz.ntmps6
  have hw2 := HW2.out
  obtain ⟨d0, d1, d2, d3, d4, d5, d6⟩ := C7.out w2 (Below.refl _ _)
  obtain ⟨p0, p1, p2, p3, p4, p5, p6, p7, p8, p9, p10⟩ := C11.out w2 (Below.refl _ _)
  have HBc := Lib.hid (Below.refl w2.heap.size w2)
  go_wp2_with (first
    | (go_at_call 7; (with_reducible refine FS.out.mono ?_); rintro e w3 ⟨⟨q, rfl, h1⟩, hb⟩; have H1 := Lib.hid h1; have HBc := Lib.hid (HBc.out.trans (hb.mono HBc.out.size)); obtain ⟨d0, d1, d2, d3, d4, d5, d6⟩ := C7.out _ HBc.out; obtain ⟨p0, p1, p2, p3, p4, p5, p6, p7, p8, p9, p10⟩ := C11.out _ HBc.out; clear h1 hb; cases q)
    | (go_at_call 8; (with_reducible refine (FP.out _ HBc.out).mono ?_); rintro e w4 ⟨⟨q, rfl, h1⟩, hb⟩; have H2 := Lib.hid h1; have HBc := Lib.hid (HBc.out.trans (hb.mono HBc.out.size)); obtain ⟨d0, d1, d2, d3, d4, d5, d6⟩ := C7.out _ HBc.out; obtain ⟨p0, p1, p2, p3, p4, p5, p6, p7, p8, p9, p10⟩ := C11.out _ HBc.out; clear h1 hb; cases q)
    | (go_at_call 28; (with_reducible refine (CK.out _ (H1.out (by trivial)) HBc.out).mono ?_); rintro e w5 ⟨⟨z, rfl, hz, hu⟩, hb⟩; have HU := Lib.hid hu; have HBc := Lib.hid (HBc.out.trans (hb.mono HBc.out.size)); obtain ⟨d0, d1, d2, d3, d4, d5, d6⟩ := C7.out _ HBc.out; obtain ⟨p0, p1, p2, p3, p4, p5, p6, p7, p8, p9, p10⟩ := C11.out _ HBc.out; clear hu hb; rcases hz with rfl | rfl | rfl)
    | (go_at_call 9; (with_reducible refine (AW.out _ HBc.out).mono ?_); rintro e w6 ⟨rfl, hb⟩; have HBc := Lib.hid (HBc.out.trans (hb.mono HBc.out.size)); clear hb)
    | (go_at_call 26; (with_reducible refine (LS.out _ (H1.out (by trivial)) (H2.out (by trivial)) HBc.out).mono ?_); rintro e w7 ⟨r, M0, rfl, hM0, hO, hb⟩; obtain ⟨ra8, rc8, rb8, ro8, hr8, -⟩ := (OwnM.holds hO).2; subst hr8; have HM0 := Lib.hid hM0; have HO := Lib.hid hO; have HBd := Lib.hid hb; have HBc := Lib.hid (HBc.out.trans (hb.mono HBc.out.size)); obtain ⟨d0, d1, d2, d3, d4, d5, d6⟩ := C7.out _ HBc.out; obtain ⟨p0, p1, p2, p3, p4, p5, p6, p7, p8, p9, p10⟩ := C11.out _ HBc.out; clear hM0 hO hb))
  all_goals first
    | (go_ret; exact ⟨rfl, HB2.out.trans (HBc.out.mono HB2.out.size)⟩)
    | skip
  have HUQ := Lib.hid (HU.out (by trivial))
  obtain ⟨hl70, hp70⟩ := HPL.out (H1.out (by trivial))
  have hf40 := HPF.out (H2.out (by trivial))
  have hn40 : n ≤ 40 := by have := HN.out; omega
  have HP70 := Lib.hid hp70
  have hp1 : PS := H1.out (by trivial)
  have hp2 : PP := H2.out (by trivial)
  have TR1 : Hid (∀ W (q r : ByteArray), Below w2.heap.size w2 W → Calls Tryz.prog 30 #[.slice da dn dc, .string q, .string r] W (ToPost ds q.data.toList r.data.toList W)) := Lib.hid (fun W q r hb => TR.out W q r hp1 hb)
  have HA1 : Hid (∀ W (q : ByteArray), Below w2.heap.size w2 W → Calls Tryz.prog 31 #[.slice pra rpn prc, .string q] W fun e w' => e = .returned (.bool (decide (q.data.toList ∈ rp))) ∧ W = w') := Lib.hid (fun W q hb => HA.out W q hp2 hb)
  obtain ⟨ats, hats⟩ : ∃ ats, placesL ds nm fl = ats := ⟨_, rfl⟩
  rw [hats] at HM0
  obtain ⟨LOST, hLOST⟩ : ∃ l, lostTo ds nm rp ats ls ls.length = l := ⟨_, rfl⟩
  rw [hLOST] at HM0
  have HLST := Lib.hid hLOST
  have HATS := Lib.hid hats
  have HWB := HBc
  have B27 : Hid (∀ W, Below w7.heap.size w7 W → Below w2.heap.size w2 W) := Lib.hid (fun W hb => HWB.out.trans (hb.mono HWB.out.size))
  have HL7 := Lib.hid (HLS.out.on HBc.out)
  obtain ⟨m, hm⟩ : ∃ m, M0.length = m := ⟨_, rfl⟩
  rw [hm] at HO ⊢
  have HMM := Lib.hid hm
  have hm70 : m ≤ 70 := by have h1 := congrArg List.length HM0.out; rw [List.length_map, hm, ← HLST.out] at h1; have h2 := lostTo_len ds nm rp ats ls ls.length; omega
  have AWK := AW
  clear FS FP CK AW LS TR HA HU H1 H2 HPL HPF hm hats hLOST hp70 hp1 hp2 HBd d0 d1 d2 d3 d4 d5 d6 p0 p1 p2 p3 p4 p5 p6 p7 p8 p9 p10
  go_loopw [6, 7] (fun u i wr => ∃ (k : Nat) (M : List Lp), k ≤ m ∧ i = .int .i64 k ∧ Hid (HoldL wr u M) ∧ Hid (Left ds ats ls (M.map (·.1)) ((LOST.take k).map (·.1))) ∧ Hid (Below w7.heap.size w7 wr)) (fun _ i _ => m - (intOf i).toNat)
  case atStart => exact ⟨0, ls, by omega, rfl, HL7, Lib.hid (by rw [List.take_zero]; exact Left.start _ _ _), Lib.hid (Below.refl _ _)⟩
  case round =>
    obtain ⟨k, M, hk, rfl, HM, HLE, HB⟩ := hrel
    have hsz := HB.out.size
    obtain ⟨hinM, ma, mc, mb, mo, hmu, hmc, hma, hmcell⟩ := HM.out
    subst hmu
    have hMl : M.length ≤ 70 := by have := HLE.out.len; rw [List.length_map] at this; omega
    by_cases hlt : k < m
    · obtain ⟨q, hq⟩ : ∃ q, M0[k]? = some q := ⟨_, List.getElem?_eq_getElem (by rw [HMM.out]; exact hlt)⟩
      have hqL : LOST[k]? = some q.1 := by rw [← HM0.out, List.getElem?_map, hq]; rfl
      have hqm := List.mem_of_getElem? hqL
      rw [← HLST.out] at hqm
      obtain ⟨k0, p0, -, hk0, hlb, hqe⟩ := lostTo_mem hqm
      have hOw := (HO.out.on HB.out)
      obtain ⟨hinr, ra9, rc9, rb9, ro9, her, -, hra, hrcell⟩ := hOw.holds
      rw [HMM.out] at her hra
      simp only [Value.slice.injEq] at her
      obtain ⟨rfl, -, rfl⟩ := her
      obtain ⟨rfl, hbw⟩ := hra (by omega)
      obtain ⟨c0, c1⟩ := hrcell k q hq
      have hqT := hinr q (List.mem_of_getElem? hq)
      obtain ⟨pa, pn, pc, hu⟩ := HoldT.form2 hqT
      have hq1 : q.1.1 = p0.1.1 := by rw [hqe]
      have hq2 : q.1.2 = locL ds p0.1.1 p0.1.2 ats := by rw [hqe]
      have hpl : q.1.2.length ≤ 70 := by rw [hq2]; exact Nat.le_trans (loc_len _ _ _ _) (HP70.out p0 (List.mem_of_getElem? hk0))
      have HNXT : Hid (∀ R : List Ls, R = loseF M q.1.1 q.1.2 → Left ds ats ls R ((LOST.take (k + 1)).map (·.1))) := Lib.hid (fun R hR => by
        rw [hR, List.take_add_one, hqL, hq1, hq2, List.map_append]
        have := HLE.out.step HUQ.out hk0
        rw [show (q.1 : Ls) = (p0.1.1, locL ds p0.1.1 p0.1.2 ats) from hqe]
        exact this)
      have LZx : Hid (∀ V, Below wr.heap.size wr V → Calls Tryz.prog 29 #[.slice ma M.length mc, .string (bsT q.1.1), .slice pa pn pc] V fun e w' => (∃ a c M', e = .returned (.slice a (List.length M') c) ∧ HoldL w' (.slice a (List.length M') c) M' ∧ M'.map (·.1) = loseF M q.1.1 q.1.2) ∧ Below V.heap.size V w') := Lib.hid (fun V hb => by
        have := LZ.out V (.slice ma M.length mc) (.slice pa pn pc) M q.1.2 (bsT q.1.1) (by omega) (fun x hx => by have := HLE.out.smallM HP70.out x hx; omega) (by omega) (HM.out.on hb) (by rw [← hu]; exact hqT.on hb)
        refine this.mono (fun e w' h => ?_)
        obtain ⟨v, M', h1, h2, h3, h4⟩ := h
        obtain ⟨hi2, a, c, b, o, e2, hrest⟩ := h2
        subst e2
        rw [show (bsT q.1.1).data.toList = q.1.1 from by simp] at h3
        exact ⟨⟨a, c, M', h1, ⟨hi2, a, c, b, o, rfl, hrest⟩, h3⟩, h4⟩)
      rw [hu] at c1
      generalize bsT q.1.1 = X at *
      have HSK : Hid (Below w7.heap.size w7 wr) := HB
      have i0' : (0 : Int) ≤ (k : Int) := by omega
      have i1' : (k : Int) < (m : Int) := by omega
      have hs := And.intro c0 (And.intro c1 (Below.refl wr.heap.size wr))
      clear hq hqL hqm hk0 hlb hqe hOw hinr hrcell hqT hu hq1 hq2 hpl hinM hmcell hra HLE HM hma
      go_wp2
      have BE := fun (V : World) (h : V.cell? ⟨rb9, ro9 + k * 2, none⟩ = some (.string X) ∧ V.cell? ⟨rb9, ro9 + k * 2 + 1, none⟩ = some (.slice pa pn pc) ∧ Below wr.heap.size wr V) => AtF.be (w := wr) (l := [(⟨rb9, ro9 + k * 2, none⟩, .string X), (⟨rb9, ro9 + k * 2 + 1, none⟩, .slice pa pn pc)]) h
      refine wp_region_held_drew (S := (fun V => V.cell? ⟨rb9, ro9 + k * 2, none⟩ = some (.string X) ∧ V.cell? ⟨rb9, ro9 + k * 2 + 1, none⟩ = some (.slice pa pn pc) ∧ Below wr.heap.size wr V)) (by kernel_rfl) ?_ (fun hHeld => ?_)
      · (try dsimp only); (first | assumption | exact hs | exact AtF.dr (w := wr) (l := [(⟨rb9, ro9 + k * 2, none⟩, .string X), (⟨rb9, ro9 + k * 2 + 1, none⟩, .slice pa pn pc)]) hs | exact AtF.dr (w := wr) (l := [(⟨rb9, ro9 + k * 2, none⟩, .string X), (⟨rb9, ro9 + k * 2 + 1, none⟩, .slice pa pn pc)]) (by assumption) | exact AtF.on (w := wr) (l := [(⟨rb9, ro9 + k * 2, none⟩, .string X), (⟨rb9, ro9 + k * 2 + 1, none⟩, .slice pa pn pc)]) (by assumption) (by assumption) | exact AtF.al (w := wr) (l := [(⟨rb9, ro9 + k * 2, none⟩, .string X), (⟨rb9, ro9 + k * 2 + 1, none⟩, .slice pa pn pc)]) (by assumption) _ | exact AtF.ald (w := wr) (l := [(⟨rb9, ro9 + k * 2, none⟩, .string X), (⟨rb9, ro9 + k * 2 + 1, none⟩, .slice pa pn pc)]) (by assumption) _ | exact AtF.al (w := wr) (l := [(⟨rb9, ro9 + k * 2, none⟩, .string X), (⟨rb9, ro9 + k * 2 + 1, none⟩, .slice pa pn pc)]) hs _ | exact AtF.ald (w := wr) (l := [(⟨rb9, ro9 + k * 2, none⟩, .string X), (⟨rb9, ro9 + k * 2 + 1, none⟩, .slice pa pn pc)]) hs _)
      refine heldY 0 38 ?_ _ rfl rfl (by kernel_rfl) (by kernel_rfl) (by kernel_rfl) (fun _ _ _ h => h) rfl (by assumption) ?_ ?_
      rotate_left
      · (intro w hSw; (try dsimp only at hSw); go_simp; (try with_reducible rfl))
      try simp only [List.setIfInBounds_toArray, List.set_cons_zero, List.set_cons_succ]
      refine heldY 1 39 ?_ _ rfl rfl (by kernel_rfl) (by kernel_rfl) (by kernel_rfl) (fun _ _ _ h => h) rfl (by assumption) ?_ ?_
      rotate_left
      · (intro w hSw; (try dsimp only at hSw); go_simp; (try with_reducible rfl))
      try simp only [List.setIfInBounds_toArray, List.set_cons_zero, List.set_cons_succ]
      refine heldY 2 40 ?_ _ rfl rfl (by kernel_rfl) (by kernel_rfl) (by kernel_rfl) (fun _ _ _ h => h) rfl (by assumption) ?_ ?_
      rotate_left
      · (intro w hSw; (try dsimp only at hSw); go_simp; (try with_reducible rfl))
      try simp only [List.setIfInBounds_toArray, List.set_cons_zero, List.set_cons_succ]
      refine heldY 3 41 ?_ _ rfl rfl (by kernel_rfl) (by kernel_rfl) (by kernel_rfl) (fun _ _ _ h => h) rfl (by assumption) ?_ ?_
      rotate_left
      · (intro w hSw; (try dsimp only at hSw); go_simp; (try with_reducible rfl))
      try simp only [List.setIfInBounds_toArray, List.set_cons_zero, List.set_cons_succ]
      refine heldY 4 42 ?_ _ rfl rfl (by kernel_rfl) (by kernel_rfl) (by kernel_rfl) (fun _ _ _ h => h) rfl (by assumption) ?_ ?_
      rotate_left
      · (intro w hSw; (try dsimp only at hSw); go_simp; (try with_reducible rfl))
      try simp only [List.setIfInBounds_toArray, List.set_cons_zero, List.set_cons_succ]
      refine heldY 5 43 ?_ _ rfl rfl (by kernel_rfl) (by kernel_rfl) (by kernel_rfl) (fun _ _ _ h => h) rfl (by assumption) ?_ ?_
      rotate_left
      · (intro w hSw; (try dsimp only at hSw); go_simp; (try with_reducible rfl))
      try simp only [List.setIfInBounds_toArray, List.set_cons_zero, List.set_cons_succ]
      refine heldY 6 44 ?_ _ rfl rfl (by kernel_rfl) (by kernel_rfl) (by kernel_rfl) (fun _ _ _ h => h) rfl (by assumption) ?_ ?_
      rotate_left
      · (intro w hSw; (try dsimp only at hSw); go_simp; (try with_reducible rfl))
      try simp only [List.setIfInBounds_toArray, List.set_cons_zero, List.set_cons_succ]
      refine heldY 7 45 ?_ _ rfl rfl (by kernel_rfl) (by kernel_rfl) (by kernel_rfl) (fun _ _ _ h => h) rfl (by assumption) ?_ ?_
      rotate_left
      · (intro w hSw; (try dsimp only at hSw); go_simp; (try with_reducible rfl))
      try simp only [List.setIfInBounds_toArray, List.set_cons_zero, List.set_cons_succ]
      refine heldY 8 46 ?_ _ rfl rfl (by kernel_rfl) (by kernel_rfl) (by kernel_rfl) (fun _ _ _ h => h) rfl (by assumption) ?_ ?_
      rotate_left
      · (intro w hSw; (try dsimp only at hSw); go_simp; (try with_reducible rfl))
      try simp only [List.setIfInBounds_toArray, List.set_cons_zero, List.set_cons_succ]
      refine heldY 9 47 ?_ _ rfl rfl (by kernel_rfl) (by kernel_rfl) (by kernel_rfl) (fun _ _ _ h => h) rfl (by assumption) ?_ ?_
      rotate_left
      · (intro w hSw; (try dsimp only at hSw); go_simp; (try with_reducible rfl))
      try simp only [List.setIfInBounds_toArray, List.set_cons_zero, List.set_cons_succ]
      refine heldY 10 48 ?_ _ rfl rfl (by kernel_rfl) (by kernel_rfl) (by kernel_rfl) (fun _ _ _ h => h) rfl (by assumption) ?_ ?_
      rotate_left
      · (intro w hSw; (try dsimp only at hSw); go_simp; (try with_reducible rfl))
      try simp only [List.setIfInBounds_toArray, List.set_cons_zero, List.set_cons_succ]
      refine wpAnyH_ready (rs := [11]) (by kernel_rfl) (by simp) ?_
      refine AllReadyH.cons rfl (fun K hK => ?_) AllReadyH.nil
      go_simp
      (go_at_call 29; (with_reducible refine (LZx.out _ (BE _ (by assumption))).mono ?_); rintro e w3 ⟨⟨a3, c3, M3, rfl, hh3, hm3⟩, hb⟩; have HH3 := Lib.hid hh3; have HM3 := Lib.hid hm3; clear hh3 hm3)
      refine hK.out _ _ ?_ (fun hHeld => ?_)
      · (try dsimp only); (first | assumption | exact hs | exact AtF.dr (w := wr) (l := [(⟨rb9, ro9 + k * 2, none⟩, .string X), (⟨rb9, ro9 + k * 2 + 1, none⟩, .slice pa pn pc)]) hs | exact AtF.dr (w := wr) (l := [(⟨rb9, ro9 + k * 2, none⟩, .string X), (⟨rb9, ro9 + k * 2 + 1, none⟩, .slice pa pn pc)]) (by assumption) | exact AtF.on (w := wr) (l := [(⟨rb9, ro9 + k * 2, none⟩, .string X), (⟨rb9, ro9 + k * 2 + 1, none⟩, .slice pa pn pc)]) (by assumption) (by assumption) | exact AtF.al (w := wr) (l := [(⟨rb9, ro9 + k * 2, none⟩, .string X), (⟨rb9, ro9 + k * 2 + 1, none⟩, .slice pa pn pc)]) (by assumption) _ | exact AtF.ald (w := wr) (l := [(⟨rb9, ro9 + k * 2, none⟩, .string X), (⟨rb9, ro9 + k * 2 + 1, none⟩, .slice pa pn pc)]) (by assumption) _ | exact AtF.al (w := wr) (l := [(⟨rb9, ro9 + k * 2, none⟩, .string X), (⟨rb9, ro9 + k * 2 + 1, none⟩, .slice pa pn pc)]) hs _ | exact AtF.ald (w := wr) (l := [(⟨rb9, ro9 + k * 2, none⟩, .string X), (⟨rb9, ro9 + k * 2 + 1, none⟩, .slice pa pn pc)]) hs _)
      clear hK K
      try simp only [Act.put, List.setIfInBounds_toArray, List.set_cons_zero, List.set_cons_succ]
      refine heldY 12 6 ?_ _ rfl rfl (by kernel_rfl) (by kernel_rfl) (by kernel_rfl) (fun _ _ _ h => h) rfl (by assumption) ?_ ?_
      rotate_left
      · (intro w hSw; (try dsimp only at hSw); go_simp; (try with_reducible rfl))
      try simp only [List.setIfInBounds_toArray, List.set_cons_zero, List.set_cons_succ]
      refine wpAnyH_done (by kernel_rfl) ?_ _
      have HB4 : Hid (Below wr.heap.size wr w3) := Lib.hid (BE _ hHeld)
      have HB5 := Lib.hid (HB.out.trans (HB4.out.mono HB.out.size))
      clear hHeld hs c0 c1 LZx
      go_wp2
      go_roundw
      case rel => exact ⟨k + 1, M3, by omega, by go_num, HH3, Lib.hid (HNXT.out _ HM3.out), HB5⟩
      case measure => simp [intOf]; omega
    · have hkm : k = m := by omega
      subst hkm
      have HLF : Hid (Left ds ats ls (M.map (·.1)) (LOST.map (·.1))) := Lib.hid (by
        have := HLE.out
        rwa [List.take_of_length_le (by rw [← HM0.out, List.length_map, HMM.out]; exact Nat.le_refl _)] at this)
      have HEND : Hid (∀ (j : Nat) (x : Lp) (p : Bs) (f : Fv), M[j]? = some x → ¬ x.1.1 = nm → x.1.1 ∈ rp → p ∈ x.1.2 → f ∈ fl → ¬ f.kd = 1 → ¬ toD ds p x.1.1 = toD ds f.pt nm) := Lib.hid (fun j x p f h1 h2 h3 h4 h5 h6 h7 => by
        have hl := HLF.out
        rw [← HLST.out] at hl
        have := hl.ends HUQ.out (k := j) (q' := x.1) (by rw [List.getElem?_map, h1]; rfl) h2 h3 h4
        rw [h7, ← HATS.out] at this
        exact this (mem_places h5 h6))
      have HBL := HB
      have B2L : Hid (∀ W, Below wr.heap.size wr W → Below w2.heap.size w2 W) := Lib.hid (fun W hb => B27.out W (HBL.out.trans (hb.mono HBL.out.size)))
      obtain ⟨ML, hML⟩ : ∃ q, M.length = q := ⟨_, rfl⟩
      rw [hML] at hMl hmc hma
      have HML := Lib.hid hML
      have HHL := HM
      have HSM := Lib.hid (HLF.out.smallM HP70.out)
      have HMC : Hid (∀ W, Below wr.heap.size wr W → ∀ (j : Nat) x, M[j]? = some x → W.cell? ⟨mb, mo + j * 2, none⟩ = some (.string (bsT x.1.1)) ∧ W.cell? ⟨mb, mo + j * 2 + 1, none⟩ = some x.2 ∧ HoldT W x.2 x.1.2) := Lib.hid (fun W hb j x hx => by
        have hlt2 : mb < wr.heap.size := (hma (by have := (List.getElem?_eq_some_iff.1 hx).1; omega)).2
        obtain ⟨g1, g2⟩ := hmcell j x hx
        exact ⟨(hb.cell (p := ⟨mb, mo + j * 2, none⟩) hlt2).trans g1, (hb.cell (p := ⟨mb, mo + j * 2 + 1, none⟩) hlt2).trans g2, (hinM x (List.mem_of_getElem? hx)).on hb⟩)
      have HFA := Lib.hid hfa
      have HMA := Lib.hid hma
      rw [hML]
      obtain ⟨wL, hwL⟩ : ∃ wL : World, wL = wr := ⟨_, rfl⟩
      subst hwL
      clear hML hmcell hinM hfa hma HLE HM HLF LZ HO HM0 HP70 hlt hsz HMM HLST HATS HUQ HB HLS HL7
      go_wp2
      go_loopw [8] (fun i wr => ∃ (k : Nat), k ≤ n ∧ i = .int .i64 k ∧ Hid (Below wL.heap.size wL wr)) (fun i _ => n - (intOf i).toNat)
      case atStart => exact ⟨0, by omega, rfl, Lib.hid (Below.refl _ _)⟩
      case round =>
        obtain ⟨k1, hk1, rfl, HB⟩ := hrel
        have hsz := HB.out.size
        obtain ⟨p0, p1, p2, p3, p4, p5, p6, p7, p8, p9, p10⟩ := C11.out _ (B2L.out _ HB.out)
        obtain ⟨d0, d1, d2, d3, d4, d5, d6⟩ := C7.out _ (B2L.out _ HB.out)
        clear p1 p2 p3 p6 p7 p8 p9 p10 d0 d2 d3 d4 d5 d6
        by_cases hlt : k1 < n
        · obtain ⟨f, hfx⟩ : ∃ f, fl[k1]? = some f := ⟨_, List.getElem?_eq_getElem (by rw [HN.out]; exact hlt)⟩
          obtain ⟨rfl, hbw⟩ := HFA.out (by omega)
          obtain ⟨q0, q1, -, -, -, -, -⟩ := HFC.out k1 f hfx
          have HQ : Hid (∀ W, Below wL.heap.size wL W → W.cell? ⟨fb', fo' + k1 * 7, none⟩ = some (.string (⟨f.pt.toArray⟩ : ByteArray)) ∧ W.cell? ⟨fb', fo' + k1 * 7 + 1, none⟩ = some (.int .i64 f.kd)) := Lib.hid (fun W hb => ⟨((B2L.out W hb).cell (p := ⟨fb', fo' + k1 * 7, none⟩) hbw).trans q0, ((B2L.out W hb).cell (p := ⟨fb', fo' + k1 * 7 + 1, none⟩) hbw).trans q1⟩)
          have HEF : Hid (∀ (j : Nat) (x : Lp) (p : Bs), M[j]? = some x → ¬ x.1.1 = nm → x.1.1 ∈ rp → p ∈ x.1.2 → ¬ f.kd = 1 → ¬ toD ds p x.1.1 = toD ds f.pt nm) := Lib.hid (fun j x p h1 h2 h3 h4 h6 => HEND.out j x p f h1 h2 h3 h4 (List.mem_of_getElem? hfx) h6)
          have hTf : (⟨f.pt.toArray⟩ : ByteArray).data.toList = f.pt := by simp
          obtain ⟨X, hX⟩ : ∃ X : ByteArray, (⟨f.pt.toArray⟩ : ByteArray) = X := ⟨_, rfl⟩
          rw [hX] at hTf HQ
          have TF : Hid (∀ V, Below wr.heap.size wr V → Calls Tryz.prog 30 #[.slice da dn dc, .string X, .string NM] V fun e w' => e = .returned (.string (bsA (toD ds f.pt nm))) ∧ Below V.heap.size V w') := Lib.hid (fun V hb => by
            have := TR1.out V X NM (B2L.out _ (HB.out.trans (hb.mono HB.out.size)))
            unfold ToPost at this
            rw [hTf, HNM.out] at this; exact this)
          obtain ⟨AT, hAT⟩ : ∃ q, toD ds f.pt nm = q := ⟨_, rfl⟩
          rw [hAT] at TF HEF
          obtain ⟨kd, hkd⟩ : ∃ q, f.kd = q := ⟨_, rfl⟩
          rw [hkd] at HEF HQ
          obtain ⟨c0, c1⟩ := HQ.out _ HB.out
          have i0' : (0 : Int) ≤ (k1 : Int) := by omega
          have i1' : (k1 : Int) < (n : Int) := by omega
          have hATL : (bsA AT).data.toList = AT := by simp
          generalize bsA AT = Z at *
          have HATL := Lib.hid hATL
          have hs := And.intro d1 (And.intro p5 (And.intro c0 (And.intro p0 (Below.refl wr.heap.size wr))))
          clear hfx q0 q1 hTf hX hAT hkd hATL c1
          go_wp2
          have BE := fun (V : World) (h : V.cell? ⟨w.heap.size, 1, none⟩ = some (.slice da dn dc) ∧ V.cell? ⟨w.heap.size + 1, 5, none⟩ = some (.slice (some ⟨fb', fo', none⟩) n fc') ∧ V.cell? ⟨fb', fo' + k1 * 7, none⟩ = some (.string X) ∧ V.cell? ⟨w.heap.size + 1, 0, none⟩ = some (.string NM) ∧ Below wr.heap.size wr V) => AtF.be (w := wr) (l := [(⟨w.heap.size, 1, none⟩, .slice da dn dc), (⟨w.heap.size + 1, 5, none⟩, .slice (some ⟨fb', fo', none⟩) n fc'), (⟨fb', fo' + k1 * 7, none⟩, .string X), (⟨w.heap.size + 1, 0, none⟩, .string NM)]) h
          refine wp_region_held_drew (S := (fun V => V.cell? ⟨w.heap.size, 1, none⟩ = some (.slice da dn dc) ∧ V.cell? ⟨w.heap.size + 1, 5, none⟩ = some (.slice (some ⟨fb', fo', none⟩) n fc') ∧ V.cell? ⟨fb', fo' + k1 * 7, none⟩ = some (.string X) ∧ V.cell? ⟨w.heap.size + 1, 0, none⟩ = some (.string NM) ∧ Below wr.heap.size wr V)) (by kernel_rfl) ?_ (fun hHeld => ?_)
          · (try dsimp only); (first | assumption | exact hs | exact AtF.dr (w := wr) (l := [(⟨w.heap.size, 1, none⟩, .slice da dn dc), (⟨w.heap.size + 1, 5, none⟩, .slice (some ⟨fb', fo', none⟩) n fc'), (⟨fb', fo' + k1 * 7, none⟩, .string X), (⟨w.heap.size + 1, 0, none⟩, .string NM)]) hs | exact AtF.dr (w := wr) (l := [(⟨w.heap.size, 1, none⟩, .slice da dn dc), (⟨w.heap.size + 1, 5, none⟩, .slice (some ⟨fb', fo', none⟩) n fc'), (⟨fb', fo' + k1 * 7, none⟩, .string X), (⟨w.heap.size + 1, 0, none⟩, .string NM)]) (by assumption) | exact AtF.on (w := wr) (l := [(⟨w.heap.size, 1, none⟩, .slice da dn dc), (⟨w.heap.size + 1, 5, none⟩, .slice (some ⟨fb', fo', none⟩) n fc'), (⟨fb', fo' + k1 * 7, none⟩, .string X), (⟨w.heap.size + 1, 0, none⟩, .string NM)]) (by assumption) (by assumption) | exact AtF.al (w := wr) (l := [(⟨w.heap.size, 1, none⟩, .slice da dn dc), (⟨w.heap.size + 1, 5, none⟩, .slice (some ⟨fb', fo', none⟩) n fc'), (⟨fb', fo' + k1 * 7, none⟩, .string X), (⟨w.heap.size + 1, 0, none⟩, .string NM)]) (by assumption) _ | exact AtF.ald (w := wr) (l := [(⟨w.heap.size, 1, none⟩, .slice da dn dc), (⟨w.heap.size + 1, 5, none⟩, .slice (some ⟨fb', fo', none⟩) n fc'), (⟨fb', fo' + k1 * 7, none⟩, .string X), (⟨w.heap.size + 1, 0, none⟩, .string NM)]) (by assumption) _ | exact AtF.al (w := wr) (l := [(⟨w.heap.size, 1, none⟩, .slice da dn dc), (⟨w.heap.size + 1, 5, none⟩, .slice (some ⟨fb', fo', none⟩) n fc'), (⟨fb', fo' + k1 * 7, none⟩, .string X), (⟨w.heap.size + 1, 0, none⟩, .string NM)]) hs _ | exact AtF.ald (w := wr) (l := [(⟨w.heap.size, 1, none⟩, .slice da dn dc), (⟨w.heap.size + 1, 5, none⟩, .slice (some ⟨fb', fo', none⟩) n fc'), (⟨fb', fo' + k1 * 7, none⟩, .string X), (⟨w.heap.size + 1, 0, none⟩, .string NM)]) hs _)
          refine heldY 0 57 ?_ _ rfl rfl (by kernel_rfl) (by kernel_rfl) (by kernel_rfl) (fun _ _ _ h => h) rfl (by assumption) ?_ ?_
          rotate_left
          · (intro w hSw; (try dsimp only at hSw); go_simp; (try with_reducible rfl))
          try simp only [List.setIfInBounds_toArray, List.set_cons_zero, List.set_cons_succ]
          refine heldY 1 58 ?_ _ rfl rfl (by kernel_rfl) (by kernel_rfl) (by kernel_rfl) (fun _ _ _ h => h) rfl (by assumption) ?_ ?_
          rotate_left
          · (intro w hSw; (try dsimp only at hSw); go_simp; (try with_reducible rfl))
          try simp only [List.setIfInBounds_toArray, List.set_cons_zero, List.set_cons_succ]
          refine heldY 2 59 ?_ _ rfl rfl (by kernel_rfl) (by kernel_rfl) (by kernel_rfl) (fun _ _ _ h => h) rfl (by assumption) ?_ ?_
          rotate_left
          · (intro w hSw; (try dsimp only at hSw); go_simp; (try with_reducible rfl))
          try simp only [List.setIfInBounds_toArray, List.set_cons_zero, List.set_cons_succ]
          refine heldY 3 60 ?_ _ rfl rfl (by kernel_rfl) (by kernel_rfl) (by kernel_rfl) (fun _ _ _ h => h) rfl (by assumption) ?_ ?_
          rotate_left
          · (intro w hSw; (try dsimp only at hSw); go_simp; (try with_reducible rfl))
          try simp only [List.setIfInBounds_toArray, List.set_cons_zero, List.set_cons_succ]
          refine heldY 4 61 ?_ _ rfl rfl (by kernel_rfl) (by kernel_rfl) (by kernel_rfl) (fun _ _ _ h => h) rfl (by assumption) ?_ ?_
          rotate_left
          · (intro w hSw; (try dsimp only at hSw); go_simp; (try with_reducible rfl))
          try simp only [List.setIfInBounds_toArray, List.set_cons_zero, List.set_cons_succ]
          refine heldY 5 62 ?_ _ rfl rfl (by kernel_rfl) (by kernel_rfl) (by kernel_rfl) (fun _ _ _ h => h) rfl (by assumption) ?_ ?_
          rotate_left
          · (intro w hSw; (try dsimp only at hSw); go_simp; (try with_reducible rfl))
          try simp only [List.setIfInBounds_toArray, List.set_cons_zero, List.set_cons_succ]
          refine heldY 6 63 ?_ _ rfl rfl (by kernel_rfl) (by kernel_rfl) (by kernel_rfl) (fun _ _ _ h => h) rfl (by assumption) ?_ ?_
          rotate_left
          · (intro w hSw; (try dsimp only at hSw); go_simp; (try with_reducible rfl))
          try simp only [List.setIfInBounds_toArray, List.set_cons_zero, List.set_cons_succ]
          refine heldY 7 64 ?_ _ rfl rfl (by kernel_rfl) (by kernel_rfl) (by kernel_rfl) (fun _ _ _ h => h) rfl (by assumption) ?_ ?_
          rotate_left
          · (intro w hSw; (try dsimp only at hSw); go_simp; (try with_reducible rfl))
          try simp only [List.setIfInBounds_toArray, List.set_cons_zero, List.set_cons_succ]
          refine heldY 8 65 ?_ _ rfl rfl (by kernel_rfl) (by kernel_rfl) (by kernel_rfl) (fun _ _ _ h => h) rfl (by assumption) ?_ ?_
          rotate_left
          · (intro w hSw; (try dsimp only at hSw); go_simp; (try with_reducible rfl))
          try simp only [List.setIfInBounds_toArray, List.set_cons_zero, List.set_cons_succ]
          refine heldY 9 66 ?_ _ rfl rfl (by kernel_rfl) (by kernel_rfl) (by kernel_rfl) (fun _ _ _ h => h) rfl (by assumption) ?_ ?_
          rotate_left
          · (intro w hSw; (try dsimp only at hSw); go_simp; (try with_reducible rfl))
          try simp only [List.setIfInBounds_toArray, List.set_cons_zero, List.set_cons_succ]
          refine wpAnyH_ready (rs := [10]) (by kernel_rfl) (by simp) ?_
          refine AllReadyH.cons rfl (fun K hK => ?_) AllReadyH.nil
          go_simp
          (go_at_call 30; (with_reducible refine (TF.out _ (BE _ (by assumption))).mono ?_); rintro e w3 ⟨rfl, hb⟩)
          refine hK.out _ _ ?_ (fun hHeld => ?_)
          · (try dsimp only); (first | assumption | exact hs | exact AtF.dr (w := wr) (l := [(⟨w.heap.size, 1, none⟩, .slice da dn dc), (⟨w.heap.size + 1, 5, none⟩, .slice (some ⟨fb', fo', none⟩) n fc'), (⟨fb', fo' + k1 * 7, none⟩, .string X), (⟨w.heap.size + 1, 0, none⟩, .string NM)]) hs | exact AtF.dr (w := wr) (l := [(⟨w.heap.size, 1, none⟩, .slice da dn dc), (⟨w.heap.size + 1, 5, none⟩, .slice (some ⟨fb', fo', none⟩) n fc'), (⟨fb', fo' + k1 * 7, none⟩, .string X), (⟨w.heap.size + 1, 0, none⟩, .string NM)]) (by assumption) | exact AtF.on (w := wr) (l := [(⟨w.heap.size, 1, none⟩, .slice da dn dc), (⟨w.heap.size + 1, 5, none⟩, .slice (some ⟨fb', fo', none⟩) n fc'), (⟨fb', fo' + k1 * 7, none⟩, .string X), (⟨w.heap.size + 1, 0, none⟩, .string NM)]) (by assumption) (by assumption) | exact AtF.al (w := wr) (l := [(⟨w.heap.size, 1, none⟩, .slice da dn dc), (⟨w.heap.size + 1, 5, none⟩, .slice (some ⟨fb', fo', none⟩) n fc'), (⟨fb', fo' + k1 * 7, none⟩, .string X), (⟨w.heap.size + 1, 0, none⟩, .string NM)]) (by assumption) _ | exact AtF.ald (w := wr) (l := [(⟨w.heap.size, 1, none⟩, .slice da dn dc), (⟨w.heap.size + 1, 5, none⟩, .slice (some ⟨fb', fo', none⟩) n fc'), (⟨fb', fo' + k1 * 7, none⟩, .string X), (⟨w.heap.size + 1, 0, none⟩, .string NM)]) (by assumption) _ | exact AtF.al (w := wr) (l := [(⟨w.heap.size, 1, none⟩, .slice da dn dc), (⟨w.heap.size + 1, 5, none⟩, .slice (some ⟨fb', fo', none⟩) n fc'), (⟨fb', fo' + k1 * 7, none⟩, .string X), (⟨w.heap.size + 1, 0, none⟩, .string NM)]) hs _ | exact AtF.ald (w := wr) (l := [(⟨w.heap.size, 1, none⟩, .slice da dn dc), (⟨w.heap.size + 1, 5, none⟩, .slice (some ⟨fb', fo', none⟩) n fc'), (⟨fb', fo' + k1 * 7, none⟩, .string X), (⟨w.heap.size + 1, 0, none⟩, .string NM)]) hs _)
          clear hK K
          try simp only [Act.put, List.setIfInBounds_toArray, List.set_cons_zero, List.set_cons_succ]
          refine heldY 11 9 ?_ _ rfl rfl (by kernel_rfl) (by kernel_rfl) (by kernel_rfl) (fun _ _ _ h => h) rfl (by assumption) ?_ ?_
          rotate_left
          · (intro w hSw; (try dsimp only at hSw); go_simp; (try with_reducible rfl))
          try simp only [List.setIfInBounds_toArray, List.set_cons_zero, List.set_cons_succ]
          refine wpAnyH_done (by kernel_rfl) ?_ _
          have HB4 : Hid (Below wr.heap.size wr w3) := Lib.hid (BE _ hHeld)
          have HB5 := Lib.hid (HB.out.trans (HB4.out.mono HB.out.size))
          clear hHeld hs c0 TF d1 p0 p4 p5 HB4 HB
          go_wp2
          go_loopw [10] (fun i wr => ∃ (k : Nat), k ≤ ML ∧ i = .int .i64 k ∧ Hid (Below wL.heap.size wL wr)) (fun i _ => ML - (intOf i).toNat)
          case atStart => exact ⟨0, by omega, rfl, HB5⟩
          case round =>
            obtain ⟨k2, hk2, rfl, HB⟩ := hrel
            have hsz := HB.out.size
            by_cases hlt2 : k2 < ML
            · obtain ⟨x, hxx⟩ : ∃ x, M[k2]? = some x := ⟨_, List.getElem?_eq_getElem (by rw [HML.out]; exact hlt2)⟩
              obtain ⟨rfl, hmb⟩ := HMA.out (by omega)
              obtain ⟨-, -, hT0⟩ := HMC.out wL (Below.refl _ _) k2 x hxx
              obtain ⟨pa, pc, pb, po, hu, hpc, hpa, hpcell⟩ := hT0
              have hpl70 := HSM.out x (List.mem_of_getElem? hxx)
              obtain ⟨pl, hpl⟩ : ∃ q, x.1.2.length = q := ⟨_, rfl⟩
              rw [hpl] at hu hpc hpa hpl70
              have HPL := Lib.hid hpl
              have HXC : Hid (∀ W, Below wL.heap.size wL W → W.cell? ⟨mb, mo + k2 * 2, none⟩ = some (.string (bsT x.1.1)) ∧ W.cell? ⟨mb, mo + k2 * 2 + 1, none⟩ = some (.slice pa pl pc)) := Lib.hid (fun W hb => by
                obtain ⟨g1, g2, -⟩ := HMC.out W hb k2 x hxx
                rw [hu] at g2
                exact ⟨g1, g2⟩)
              have HEG : Hid (∀ p : Bs, ¬ x.1.1 = nm → x.1.1 ∈ rp → p ∈ x.1.2 → ¬ kd = 1 → ¬ toD ds p x.1.1 = AT) := Lib.hid (fun p h2 h3 h4 h6 => HEF.out k2 x p hxx h2 h3 h4 h6)
              have HPP2 := Lib.hid hpa
              have HPC := Lib.hid hpcell
              have hN0L : (bsT x.1.1).data.toList = x.1.1 := by simp
              generalize bsT x.1.1 = N0 at *
              have HN0L := Lib.hid hN0L
              clear hxx hu hpl hpcell hpa hN0L
              go_wp2
              go_loopw [11] (fun i wr => ∃ (k : Nat), k ≤ pl ∧ i = .int .i64 k ∧ Hid (Below wL.heap.size wL wr)) (fun i _ => pl - (intOf i).toNat)
              case atStart => exact ⟨0, by omega, rfl, HB⟩
              case round =>
                obtain ⟨k3, hk3, rfl, HB⟩ := hrel
                have hsz := HB.out.size
                obtain ⟨c0, c1⟩ := HXC.out _ HB.out
                have j0 : (0 : Int) ≤ (k2 : Int) := by omega
                have j1 : (k2 : Int) < (ML : Int) := by omega
                by_cases hlt3 : k3 < pl
                · obtain ⟨rfl, hpb⟩ := HPP2.out (by omega)
                  obtain ⟨p, hpx⟩ : ∃ p, x.1.2[k3]? = some p := ⟨_, List.getElem?_eq_getElem (by rw [HPL.out]; exact hlt3)⟩
                  have cp := (HB.out.cell (p := ⟨pb, po + k3, none⟩) hpb).trans (HPC.out k3 p hpx)
                  obtain ⟨d0, d1, d2, d3, d4, d5, d6⟩ := C7.out _ (B2L.out _ HB.out)
                  obtain ⟨p0, p1, p2, p3, p4, p5, p6, p7, p8, p9, p10⟩ := C11.out _ (B2L.out _ HB.out)
                  obtain ⟨-, cK⟩ := HQ.out _ HB.out
                  clear p1 p2 p3 p6 p7 p8 p9 p10 d0 d2 d3 d4 d5 d6
                  have hPT : (⟨p.toArray⟩ : ByteArray).data.toList = p := by simp
                  obtain ⟨PT, hPTe⟩ : ∃ X : ByteArray, (⟨p.toArray⟩ : ByteArray) = X := ⟨_, rfl⟩
                  rw [hPTe] at hPT cp
                  have hN := eqT N0 NM
                  rw [HN0L.out, HNM.out] at hN
                  have HAx : Hid (∀ V, Below wr.heap.size wr V → Calls Tryz.prog 31 #[.slice pra rpn prc, .string N0] V fun e w' => e = .returned (.bool (decide (x.1.1 ∈ rp))) ∧ Below V.heap.size V w') := Lib.hid (fun V hb => by
                    have := HA1.out V N0 (B2L.out _ (HB.out.trans (hb.mono HB.out.size)))
                    rw [HN0L.out] at this
                    exact this.mono (fun e w' ⟨g1, g2⟩ => ⟨g1, by rw [g2]; exact Below.refl _ _⟩))
                  have TPx : Hid (∀ V, Below wr.heap.size wr V → Calls Tryz.prog 30 #[.slice da dn dc, .string PT, .string N0] V fun e w' => e = .returned (.string (bsA (toD ds p x.1.1))) ∧ Below V.heap.size V w') := Lib.hid (fun V hb => by
                    have := TR1.out V PT N0 (B2L.out _ (HB.out.trans (hb.mono HB.out.size)))
                    unfold ToPost at this
                    rw [hPT, HN0L.out] at this; exact this)
                  have hE := eqT (bsA (toD ds p x.1.1)) Z
                  rw [HATL.out, show (bsA (toD ds p x.1.1)).data.toList = toD ds p x.1.1 from by simp] at hE
                  have HEP := Lib.hid (fun h2 h3 h6 => HEG.out p h2 h3 (List.mem_of_getElem? hpx) h6)
                  generalize bsA (toD ds p x.1.1) = Zt at *
                  have j2 : (0 : Int) ≤ (k3 : Int) := by omega
                  have j3 : (k3 : Int) < (pl : Int) := by omega
                  have hs := And.intro p5 (And.intro cK (And.intro c0 (And.intro c1 (And.intro p0 (And.intro p4 (And.intro d1 (And.intro cp (Below.refl wr.heap.size wr))))))))
                  clear hpx hPT hPTe
                  by_cases hkd : kd = 1
                  · subst hkd
                    clear hE hN HEP
                    go_wp2
                    have BE := fun (V : World) (h : V.cell? ⟨w.heap.size + 1, 5, none⟩ = some (.slice (some ⟨fb', fo', none⟩) n fc') ∧ V.cell? ⟨fb', fo' + k1 * 7 + 1, none⟩ = some (.int .i64 1) ∧ V.cell? ⟨mb, mo + k2 * 2, none⟩ = some (.string N0) ∧ V.cell? ⟨mb, mo + k2 * 2 + 1, none⟩ = some (.slice (some ⟨pb, po, none⟩) pl pc) ∧ V.cell? ⟨w.heap.size + 1, 0, none⟩ = some (.string NM) ∧ V.cell? ⟨w.heap.size + 1, 4, none⟩ = some (.slice pra rpn prc) ∧ V.cell? ⟨w.heap.size, 1, none⟩ = some (.slice da dn dc) ∧ V.cell? ⟨pb, po + k3, none⟩ = some (.string PT) ∧ Below wr.heap.size wr V) => AtF.be (w := wr) (l := [(⟨w.heap.size + 1, 5, none⟩, .slice (some ⟨fb', fo', none⟩) n fc'), (⟨fb', fo' + k1 * 7 + 1, none⟩, .int .i64 1), (⟨mb, mo + k2 * 2, none⟩, .string N0), (⟨mb, mo + k2 * 2 + 1, none⟩, .slice (some ⟨pb, po, none⟩) pl pc), (⟨w.heap.size + 1, 0, none⟩, .string NM), (⟨w.heap.size + 1, 4, none⟩, .slice pra rpn prc), (⟨w.heap.size, 1, none⟩, .slice da dn dc), (⟨pb, po + k3, none⟩, .string PT)]) h
                    refine wp_region_held_drew (S := (fun V => V.cell? ⟨w.heap.size + 1, 5, none⟩ = some (.slice (some ⟨fb', fo', none⟩) n fc') ∧ V.cell? ⟨fb', fo' + k1 * 7 + 1, none⟩ = some (.int .i64 1) ∧ V.cell? ⟨mb, mo + k2 * 2, none⟩ = some (.string N0) ∧ V.cell? ⟨mb, mo + k2 * 2 + 1, none⟩ = some (.slice (some ⟨pb, po, none⟩) pl pc) ∧ V.cell? ⟨w.heap.size + 1, 0, none⟩ = some (.string NM) ∧ V.cell? ⟨w.heap.size + 1, 4, none⟩ = some (.slice pra rpn prc) ∧ V.cell? ⟨w.heap.size, 1, none⟩ = some (.slice da dn dc) ∧ V.cell? ⟨pb, po + k3, none⟩ = some (.string PT) ∧ Below wr.heap.size wr V)) (by kernel_rfl) ?_ (fun hHeld => ?_)
                    · (try dsimp only); (first | assumption | exact hs | exact AtF.dr (w := wr) (l := [(⟨w.heap.size + 1, 5, none⟩, .slice (some ⟨fb', fo', none⟩) n fc'), (⟨fb', fo' + k1 * 7 + 1, none⟩, .int .i64 1), (⟨mb, mo + k2 * 2, none⟩, .string N0), (⟨mb, mo + k2 * 2 + 1, none⟩, .slice (some ⟨pb, po, none⟩) pl pc), (⟨w.heap.size + 1, 0, none⟩, .string NM), (⟨w.heap.size + 1, 4, none⟩, .slice pra rpn prc), (⟨w.heap.size, 1, none⟩, .slice da dn dc), (⟨pb, po + k3, none⟩, .string PT)]) hs | exact AtF.dr (w := wr) (l := [(⟨w.heap.size + 1, 5, none⟩, .slice (some ⟨fb', fo', none⟩) n fc'), (⟨fb', fo' + k1 * 7 + 1, none⟩, .int .i64 1), (⟨mb, mo + k2 * 2, none⟩, .string N0), (⟨mb, mo + k2 * 2 + 1, none⟩, .slice (some ⟨pb, po, none⟩) pl pc), (⟨w.heap.size + 1, 0, none⟩, .string NM), (⟨w.heap.size + 1, 4, none⟩, .slice pra rpn prc), (⟨w.heap.size, 1, none⟩, .slice da dn dc), (⟨pb, po + k3, none⟩, .string PT)]) (by assumption) | exact AtF.on (w := wr) (l := [(⟨w.heap.size + 1, 5, none⟩, .slice (some ⟨fb', fo', none⟩) n fc'), (⟨fb', fo' + k1 * 7 + 1, none⟩, .int .i64 1), (⟨mb, mo + k2 * 2, none⟩, .string N0), (⟨mb, mo + k2 * 2 + 1, none⟩, .slice (some ⟨pb, po, none⟩) pl pc), (⟨w.heap.size + 1, 0, none⟩, .string NM), (⟨w.heap.size + 1, 4, none⟩, .slice pra rpn prc), (⟨w.heap.size, 1, none⟩, .slice da dn dc), (⟨pb, po + k3, none⟩, .string PT)]) (by assumption) (by assumption) | exact AtF.al (w := wr) (l := [(⟨w.heap.size + 1, 5, none⟩, .slice (some ⟨fb', fo', none⟩) n fc'), (⟨fb', fo' + k1 * 7 + 1, none⟩, .int .i64 1), (⟨mb, mo + k2 * 2, none⟩, .string N0), (⟨mb, mo + k2 * 2 + 1, none⟩, .slice (some ⟨pb, po, none⟩) pl pc), (⟨w.heap.size + 1, 0, none⟩, .string NM), (⟨w.heap.size + 1, 4, none⟩, .slice pra rpn prc), (⟨w.heap.size, 1, none⟩, .slice da dn dc), (⟨pb, po + k3, none⟩, .string PT)]) (by assumption) _ | exact AtF.ald (w := wr) (l := [(⟨w.heap.size + 1, 5, none⟩, .slice (some ⟨fb', fo', none⟩) n fc'), (⟨fb', fo' + k1 * 7 + 1, none⟩, .int .i64 1), (⟨mb, mo + k2 * 2, none⟩, .string N0), (⟨mb, mo + k2 * 2 + 1, none⟩, .slice (some ⟨pb, po, none⟩) pl pc), (⟨w.heap.size + 1, 0, none⟩, .string NM), (⟨w.heap.size + 1, 4, none⟩, .slice pra rpn prc), (⟨w.heap.size, 1, none⟩, .slice da dn dc), (⟨pb, po + k3, none⟩, .string PT)]) (by assumption) _ | exact AtF.al (w := wr) (l := [(⟨w.heap.size + 1, 5, none⟩, .slice (some ⟨fb', fo', none⟩) n fc'), (⟨fb', fo' + k1 * 7 + 1, none⟩, .int .i64 1), (⟨mb, mo + k2 * 2, none⟩, .string N0), (⟨mb, mo + k2 * 2 + 1, none⟩, .slice (some ⟨pb, po, none⟩) pl pc), (⟨w.heap.size + 1, 0, none⟩, .string NM), (⟨w.heap.size + 1, 4, none⟩, .slice pra rpn prc), (⟨w.heap.size, 1, none⟩, .slice da dn dc), (⟨pb, po + k3, none⟩, .string PT)]) hs _ | exact AtF.ald (w := wr) (l := [(⟨w.heap.size + 1, 5, none⟩, .slice (some ⟨fb', fo', none⟩) n fc'), (⟨fb', fo' + k1 * 7 + 1, none⟩, .int .i64 1), (⟨mb, mo + k2 * 2, none⟩, .string N0), (⟨mb, mo + k2 * 2 + 1, none⟩, .slice (some ⟨pb, po, none⟩) pl pc), (⟨w.heap.size + 1, 0, none⟩, .string NM), (⟨w.heap.size + 1, 4, none⟩, .slice pra rpn prc), (⟨w.heap.size, 1, none⟩, .slice da dn dc), (⟨pb, po + k3, none⟩, .string PT)]) hs _)
                    refine heldY 0 84 ?_ _ rfl rfl (by kernel_rfl) (by kernel_rfl) (by kernel_rfl) (fun _ _ _ h => h) rfl (by assumption) ?_ ?_
                    rotate_left
                    · (intro w hSw; (try dsimp only at hSw); go_simp; (try with_reducible rfl))
                    try simp only [List.setIfInBounds_toArray, List.set_cons_zero, List.set_cons_succ]
                    refine heldY 1 85 ?_ _ rfl rfl (by kernel_rfl) (by kernel_rfl) (by kernel_rfl) (fun _ _ _ h => h) rfl (by assumption) ?_ ?_
                    rotate_left
                    · (intro w hSw; (try dsimp only at hSw); go_simp; (try with_reducible rfl))
                    try simp only [List.setIfInBounds_toArray, List.set_cons_zero, List.set_cons_succ]
                    refine heldY 2 86 ?_ _ rfl rfl (by kernel_rfl) (by kernel_rfl) (by kernel_rfl) (fun _ _ _ h => h) rfl (by assumption) ?_ ?_
                    rotate_left
                    · (intro w hSw; (try dsimp only at hSw); go_simp; (try with_reducible rfl))
                    try simp only [List.setIfInBounds_toArray, List.set_cons_zero, List.set_cons_succ]
                    refine heldY 3 87 ?_ _ rfl rfl (by kernel_rfl) (by kernel_rfl) (by kernel_rfl) (fun _ _ _ h => h) rfl (by assumption) ?_ ?_
                    rotate_left
                    · (intro w hSw; (try dsimp only at hSw); go_simp; (try with_reducible rfl))
                    try simp only [List.setIfInBounds_toArray, List.set_cons_zero, List.set_cons_succ]
                    refine heldY 4 88 ?_ _ rfl rfl (by kernel_rfl) (by kernel_rfl) (by kernel_rfl) (fun _ _ _ h => h) rfl (by assumption) ?_ ?_
                    rotate_left
                    · (intro w hSw; (try dsimp only at hSw); go_simp; (try with_reducible rfl))
                    try simp only [List.setIfInBounds_toArray, List.set_cons_zero, List.set_cons_succ]
                    refine heldY 5 89 ?_ _ rfl rfl (by kernel_rfl) (by kernel_rfl) (by kernel_rfl) (fun _ _ _ h => h) rfl (by assumption) ?_ ?_
                    rotate_left
                    · (intro w hSw; (try dsimp only at hSw); go_simp; (try with_reducible rfl))
                    try simp only [List.setIfInBounds_toArray, List.set_cons_zero, List.set_cons_succ]
                    refine heldY 6 90 ?_ _ rfl rfl (by kernel_rfl) (by kernel_rfl) (by kernel_rfl) (fun _ _ _ h => h) rfl (by assumption) ?_ ?_
                    rotate_left
                    · (intro w hSw; (try dsimp only at hSw); go_simp; (try with_reducible rfl))
                    try simp only [List.setIfInBounds_toArray, List.set_cons_zero, List.set_cons_succ]
                    refine heldY 7 91 ?_ _ rfl rfl (by kernel_rfl) (by kernel_rfl) (by kernel_rfl) (fun _ _ _ h => h) rfl (by assumption) ?_ ?_
                    rotate_left
                    · (intro w hSw; (try dsimp only at hSw); go_simp; (try with_reducible rfl))
                    try simp only [List.setIfInBounds_toArray, List.set_cons_zero, List.set_cons_succ]
                    refine heldNo 8 92 rfl (by kernel_rfl) (by kernel_rfl) (by kernel_rfl) (fun _ _ _ h => h) rfl (by assumption) ?_
                    try simp only [List.setIfInBounds_toArray, List.set_cons_zero, List.set_cons_succ]
                    refine heldNo 9 93 rfl (by kernel_rfl) (by kernel_rfl) (by kernel_rfl) (fun _ _ _ h => h) rfl (by assumption) ?_
                    try simp only [List.setIfInBounds_toArray, List.set_cons_zero, List.set_cons_succ]
                    refine heldNo 10 94 rfl (by kernel_rfl) (by kernel_rfl) (by kernel_rfl) (fun _ _ _ h => h) rfl (by assumption) ?_
                    try simp only [List.setIfInBounds_toArray, List.set_cons_zero, List.set_cons_succ]
                    refine heldNo 11 95 rfl (by kernel_rfl) (by kernel_rfl) (by kernel_rfl) (fun _ _ _ h => h) rfl (by assumption) ?_
                    try simp only [List.setIfInBounds_toArray, List.set_cons_zero, List.set_cons_succ]
                    refine heldNo 12 96 rfl (by kernel_rfl) (by kernel_rfl) (by kernel_rfl) (fun _ _ _ h => h) rfl (by assumption) ?_
                    try simp only [List.setIfInBounds_toArray, List.set_cons_zero, List.set_cons_succ]
                    refine heldNo 13 97 rfl (by kernel_rfl) (by kernel_rfl) (by kernel_rfl) (fun _ _ _ h => h) rfl (by assumption) ?_
                    try simp only [List.setIfInBounds_toArray, List.set_cons_zero, List.set_cons_succ]
                    refine heldNo 14 98 rfl (by kernel_rfl) (by kernel_rfl) (by kernel_rfl) (fun _ _ _ h => h) rfl (by assumption) ?_
                    try simp only [List.setIfInBounds_toArray, List.set_cons_zero, List.set_cons_succ]
                    refine heldNo 15 99 rfl (by kernel_rfl) (by kernel_rfl) (by kernel_rfl) (fun _ _ _ h => h) rfl (by assumption) ?_
                    try simp only [List.setIfInBounds_toArray, List.set_cons_zero, List.set_cons_succ]
                    refine heldY 16 100 ?_ _ rfl rfl (by kernel_rfl) (by kernel_rfl) (by kernel_rfl) (fun _ _ _ h => h) rfl (by assumption) ?_ ?_
                    rotate_left
                    · (intro w hSw; (try dsimp only at hSw); go_simp; (try with_reducible rfl))
                    try simp only [List.setIfInBounds_toArray, List.set_cons_zero, List.set_cons_succ]
                    refine heldY 17 101 ?_ _ rfl rfl (by kernel_rfl) (by kernel_rfl) (by kernel_rfl) (fun _ _ _ h => h) rfl (by assumption) ?_ ?_
                    rotate_left
                    · (intro w hSw; (try dsimp only at hSw); go_simp; (try with_reducible rfl))
                    try simp only [List.setIfInBounds_toArray, List.set_cons_zero, List.set_cons_succ]
                    refine heldNo 18 102 rfl (by kernel_rfl) (by kernel_rfl) (by kernel_rfl) (fun _ _ _ h => h) rfl (by assumption) ?_
                    try simp only [List.setIfInBounds_toArray, List.set_cons_zero, List.set_cons_succ]
                    refine heldNo 19 103 rfl (by kernel_rfl) (by kernel_rfl) (by kernel_rfl) (fun _ _ _ h => h) rfl (by assumption) ?_
                    try simp only [List.setIfInBounds_toArray, List.set_cons_zero, List.set_cons_succ]
                    refine heldNo 20 104 rfl (by kernel_rfl) (by kernel_rfl) (by kernel_rfl) (fun _ _ _ h => h) rfl (by assumption) ?_
                    try simp only [List.setIfInBounds_toArray, List.set_cons_zero, List.set_cons_succ]
                    refine heldNo 21 105 rfl (by kernel_rfl) (by kernel_rfl) (by kernel_rfl) (fun _ _ _ h => h) rfl (by assumption) ?_
                    try simp only [List.setIfInBounds_toArray, List.set_cons_zero, List.set_cons_succ]
                    refine heldNo 22 106 rfl (by kernel_rfl) (by kernel_rfl) (by kernel_rfl) (fun _ _ _ h => h) rfl (by assumption) ?_
                    try simp only [List.setIfInBounds_toArray, List.set_cons_zero, List.set_cons_succ]
                    refine heldNo 23 107 rfl (by kernel_rfl) (by kernel_rfl) (by kernel_rfl) (fun _ _ _ h => h) rfl (by assumption) ?_
                    try simp only [List.setIfInBounds_toArray, List.set_cons_zero, List.set_cons_succ]
                    refine heldNo 24 108 rfl (by kernel_rfl) (by kernel_rfl) (by kernel_rfl) (fun _ _ _ h => h) rfl (by assumption) ?_
                    try simp only [List.setIfInBounds_toArray, List.set_cons_zero, List.set_cons_succ]
                    refine heldNo 25 109 rfl (by kernel_rfl) (by kernel_rfl) (by kernel_rfl) (fun _ _ _ h => h) rfl (by assumption) ?_
                    try simp only [List.setIfInBounds_toArray, List.set_cons_zero, List.set_cons_succ]
                    refine heldY 26 110 ?_ _ rfl rfl (by kernel_rfl) (by kernel_rfl) (by kernel_rfl) (fun _ _ _ h => h) rfl (by assumption) ?_ ?_
                    rotate_left
                    · (intro w hSw; (try dsimp only at hSw); go_simp; (try with_reducible rfl))
                    try simp only [List.setIfInBounds_toArray, List.set_cons_zero, List.set_cons_succ]
                    refine heldY 27 111 ?_ _ rfl rfl (by kernel_rfl) (by kernel_rfl) (by kernel_rfl) (fun _ _ _ h => h) rfl (by assumption) ?_ ?_
                    rotate_left
                    · (intro w hSw; (try dsimp only at hSw); go_simp; (try with_reducible rfl))
                    try simp only [List.setIfInBounds_toArray, List.set_cons_zero, List.set_cons_succ]
                    refine heldNo 28 112 rfl (by kernel_rfl) (by kernel_rfl) (by kernel_rfl) (fun _ _ _ h => h) rfl (by assumption) ?_
                    try simp only [List.setIfInBounds_toArray, List.set_cons_zero, List.set_cons_succ]
                    refine heldNo 29 113 rfl (by kernel_rfl) (by kernel_rfl) (by kernel_rfl) (fun _ _ _ h => h) rfl (by assumption) ?_
                    try simp only [List.setIfInBounds_toArray, List.set_cons_zero, List.set_cons_succ]
                    refine heldNo 30 114 rfl (by kernel_rfl) (by kernel_rfl) (by kernel_rfl) (fun _ _ _ h => h) rfl (by assumption) ?_
                    try simp only [List.setIfInBounds_toArray, List.set_cons_zero, List.set_cons_succ]
                    refine heldNo 31 115 rfl (by kernel_rfl) (by kernel_rfl) (by kernel_rfl) (fun _ _ _ h => h) rfl (by assumption) ?_
                    try simp only [List.setIfInBounds_toArray, List.set_cons_zero, List.set_cons_succ]
                    refine heldNo 32 116 rfl (by kernel_rfl) (by kernel_rfl) (by kernel_rfl) (fun _ _ _ h => h) rfl (by assumption) ?_
                    try simp only [List.setIfInBounds_toArray, List.set_cons_zero, List.set_cons_succ]
                    refine heldNo 33 117 rfl (by kernel_rfl) (by kernel_rfl) (by kernel_rfl) (fun _ _ _ h => h) rfl (by assumption) ?_
                    try simp only [List.setIfInBounds_toArray, List.set_cons_zero, List.set_cons_succ]
                    refine heldNo 34 118 rfl (by kernel_rfl) (by kernel_rfl) (by kernel_rfl) (fun _ _ _ h => h) rfl (by assumption) ?_
                    try simp only [List.setIfInBounds_toArray, List.set_cons_zero, List.set_cons_succ]
                    refine heldNo 35 119 rfl (by kernel_rfl) (by kernel_rfl) (by kernel_rfl) (fun _ _ _ h => h) rfl (by assumption) ?_
                    try simp only [List.setIfInBounds_toArray, List.set_cons_zero, List.set_cons_succ]
                    refine heldNo 36 120 rfl (by kernel_rfl) (by kernel_rfl) (by kernel_rfl) (fun _ _ _ h => h) rfl (by assumption) ?_
                    try simp only [List.setIfInBounds_toArray, List.set_cons_zero, List.set_cons_succ]
                    refine heldNo 37 121 rfl (by kernel_rfl) (by kernel_rfl) (by kernel_rfl) (fun _ _ _ h => h) rfl (by assumption) ?_
                    try simp only [List.setIfInBounds_toArray, List.set_cons_zero, List.set_cons_succ]
                    refine heldNo 38 122 rfl (by kernel_rfl) (by kernel_rfl) (by kernel_rfl) (fun _ _ _ h => h) rfl (by assumption) ?_
                    try simp only [List.setIfInBounds_toArray, List.set_cons_zero, List.set_cons_succ]
                    refine heldNo 39 123 rfl (by kernel_rfl) (by kernel_rfl) (by kernel_rfl) (fun _ _ _ h => h) rfl (by assumption) ?_
                    try simp only [List.setIfInBounds_toArray, List.set_cons_zero, List.set_cons_succ]
                    refine heldNo 40 124 rfl (by kernel_rfl) (by kernel_rfl) (by kernel_rfl) (fun _ _ _ h => h) rfl (by assumption) ?_
                    try simp only [List.setIfInBounds_toArray, List.set_cons_zero, List.set_cons_succ]
                    refine heldNo 41 125 rfl (by kernel_rfl) (by kernel_rfl) (by kernel_rfl) (fun _ _ _ h => h) rfl (by assumption) ?_
                    try simp only [List.setIfInBounds_toArray, List.set_cons_zero, List.set_cons_succ]
                    refine heldNo 42 126 rfl (by kernel_rfl) (by kernel_rfl) (by kernel_rfl) (fun _ _ _ h => h) rfl (by assumption) ?_
                    try simp only [List.setIfInBounds_toArray, List.set_cons_zero, List.set_cons_succ]
                    refine heldNo 43 127 rfl (by kernel_rfl) (by kernel_rfl) (by kernel_rfl) (fun _ _ _ h => h) rfl (by assumption) ?_
                    try simp only [List.setIfInBounds_toArray, List.set_cons_zero, List.set_cons_succ]
                    refine heldNo 44 128 rfl (by kernel_rfl) (by kernel_rfl) (by kernel_rfl) (fun _ _ _ h => h) rfl (by assumption) ?_
                    try simp only [List.setIfInBounds_toArray, List.set_cons_zero, List.set_cons_succ]
                    refine heldNo 45 129 rfl (by kernel_rfl) (by kernel_rfl) (by kernel_rfl) (fun _ _ _ h => h) rfl (by assumption) ?_
                    try simp only [List.setIfInBounds_toArray, List.set_cons_zero, List.set_cons_succ]
                    refine heldY 46 130 ?_ _ rfl rfl (by kernel_rfl) (by kernel_rfl) (by kernel_rfl) (fun _ _ _ h => h) rfl (by assumption) ?_ ?_
                    rotate_left
                    · (intro w hSw; (try dsimp only at hSw); go_simp; (try with_reducible rfl))
                    try simp only [List.setIfInBounds_toArray, List.set_cons_zero, List.set_cons_succ]
                    refine wpAnyH_done (by kernel_rfl) ?_ _
                    have HB6 := Lib.hid (HB.out.trans ((BE _ hHeld).mono HB.out.size))
                    clear hHeld hs
                    go_wp2
                    go_roundw
                    case rel => exact ⟨k3 + 1, by omega, by go_num, HB6⟩
                    case measure => simp [intOf]; omega
                  have hkb : (kd == 1) = false := by simpa using hkd
                  have hkc : (kd != 1) = true := by rw [bne, hkb]; rfl
                  by_cases hnn : x.1.1 = nm
                  · rw [decide_eq_true hnn] at hN
                    clear hE hnn HEP
                    go_wp2
                    have BE := fun (V : World) (h : V.cell? ⟨w.heap.size + 1, 5, none⟩ = some (.slice (some ⟨fb', fo', none⟩) n fc') ∧ V.cell? ⟨fb', fo' + k1 * 7 + 1, none⟩ = some (.int .i64 kd) ∧ V.cell? ⟨mb, mo + k2 * 2, none⟩ = some (.string N0) ∧ V.cell? ⟨mb, mo + k2 * 2 + 1, none⟩ = some (.slice (some ⟨pb, po, none⟩) pl pc) ∧ V.cell? ⟨w.heap.size + 1, 0, none⟩ = some (.string NM) ∧ V.cell? ⟨w.heap.size + 1, 4, none⟩ = some (.slice pra rpn prc) ∧ V.cell? ⟨w.heap.size, 1, none⟩ = some (.slice da dn dc) ∧ V.cell? ⟨pb, po + k3, none⟩ = some (.string PT) ∧ Below wr.heap.size wr V) => AtF.be (w := wr) (l := [(⟨w.heap.size + 1, 5, none⟩, .slice (some ⟨fb', fo', none⟩) n fc'), (⟨fb', fo' + k1 * 7 + 1, none⟩, .int .i64 kd), (⟨mb, mo + k2 * 2, none⟩, .string N0), (⟨mb, mo + k2 * 2 + 1, none⟩, .slice (some ⟨pb, po, none⟩) pl pc), (⟨w.heap.size + 1, 0, none⟩, .string NM), (⟨w.heap.size + 1, 4, none⟩, .slice pra rpn prc), (⟨w.heap.size, 1, none⟩, .slice da dn dc), (⟨pb, po + k3, none⟩, .string PT)]) h
                    refine wp_region_held_drew (S := (fun V => V.cell? ⟨w.heap.size + 1, 5, none⟩ = some (.slice (some ⟨fb', fo', none⟩) n fc') ∧ V.cell? ⟨fb', fo' + k1 * 7 + 1, none⟩ = some (.int .i64 kd) ∧ V.cell? ⟨mb, mo + k2 * 2, none⟩ = some (.string N0) ∧ V.cell? ⟨mb, mo + k2 * 2 + 1, none⟩ = some (.slice (some ⟨pb, po, none⟩) pl pc) ∧ V.cell? ⟨w.heap.size + 1, 0, none⟩ = some (.string NM) ∧ V.cell? ⟨w.heap.size + 1, 4, none⟩ = some (.slice pra rpn prc) ∧ V.cell? ⟨w.heap.size, 1, none⟩ = some (.slice da dn dc) ∧ V.cell? ⟨pb, po + k3, none⟩ = some (.string PT) ∧ Below wr.heap.size wr V)) (by kernel_rfl) ?_ (fun hHeld => ?_)
                    · (try dsimp only); (first | assumption | exact hs | exact AtF.dr (w := wr) (l := [(⟨w.heap.size + 1, 5, none⟩, .slice (some ⟨fb', fo', none⟩) n fc'), (⟨fb', fo' + k1 * 7 + 1, none⟩, .int .i64 kd), (⟨mb, mo + k2 * 2, none⟩, .string N0), (⟨mb, mo + k2 * 2 + 1, none⟩, .slice (some ⟨pb, po, none⟩) pl pc), (⟨w.heap.size + 1, 0, none⟩, .string NM), (⟨w.heap.size + 1, 4, none⟩, .slice pra rpn prc), (⟨w.heap.size, 1, none⟩, .slice da dn dc), (⟨pb, po + k3, none⟩, .string PT)]) hs | exact AtF.dr (w := wr) (l := [(⟨w.heap.size + 1, 5, none⟩, .slice (some ⟨fb', fo', none⟩) n fc'), (⟨fb', fo' + k1 * 7 + 1, none⟩, .int .i64 kd), (⟨mb, mo + k2 * 2, none⟩, .string N0), (⟨mb, mo + k2 * 2 + 1, none⟩, .slice (some ⟨pb, po, none⟩) pl pc), (⟨w.heap.size + 1, 0, none⟩, .string NM), (⟨w.heap.size + 1, 4, none⟩, .slice pra rpn prc), (⟨w.heap.size, 1, none⟩, .slice da dn dc), (⟨pb, po + k3, none⟩, .string PT)]) (by assumption) | exact AtF.on (w := wr) (l := [(⟨w.heap.size + 1, 5, none⟩, .slice (some ⟨fb', fo', none⟩) n fc'), (⟨fb', fo' + k1 * 7 + 1, none⟩, .int .i64 kd), (⟨mb, mo + k2 * 2, none⟩, .string N0), (⟨mb, mo + k2 * 2 + 1, none⟩, .slice (some ⟨pb, po, none⟩) pl pc), (⟨w.heap.size + 1, 0, none⟩, .string NM), (⟨w.heap.size + 1, 4, none⟩, .slice pra rpn prc), (⟨w.heap.size, 1, none⟩, .slice da dn dc), (⟨pb, po + k3, none⟩, .string PT)]) (by assumption) (by assumption) | exact AtF.al (w := wr) (l := [(⟨w.heap.size + 1, 5, none⟩, .slice (some ⟨fb', fo', none⟩) n fc'), (⟨fb', fo' + k1 * 7 + 1, none⟩, .int .i64 kd), (⟨mb, mo + k2 * 2, none⟩, .string N0), (⟨mb, mo + k2 * 2 + 1, none⟩, .slice (some ⟨pb, po, none⟩) pl pc), (⟨w.heap.size + 1, 0, none⟩, .string NM), (⟨w.heap.size + 1, 4, none⟩, .slice pra rpn prc), (⟨w.heap.size, 1, none⟩, .slice da dn dc), (⟨pb, po + k3, none⟩, .string PT)]) (by assumption) _ | exact AtF.ald (w := wr) (l := [(⟨w.heap.size + 1, 5, none⟩, .slice (some ⟨fb', fo', none⟩) n fc'), (⟨fb', fo' + k1 * 7 + 1, none⟩, .int .i64 kd), (⟨mb, mo + k2 * 2, none⟩, .string N0), (⟨mb, mo + k2 * 2 + 1, none⟩, .slice (some ⟨pb, po, none⟩) pl pc), (⟨w.heap.size + 1, 0, none⟩, .string NM), (⟨w.heap.size + 1, 4, none⟩, .slice pra rpn prc), (⟨w.heap.size, 1, none⟩, .slice da dn dc), (⟨pb, po + k3, none⟩, .string PT)]) (by assumption) _ | exact AtF.al (w := wr) (l := [(⟨w.heap.size + 1, 5, none⟩, .slice (some ⟨fb', fo', none⟩) n fc'), (⟨fb', fo' + k1 * 7 + 1, none⟩, .int .i64 kd), (⟨mb, mo + k2 * 2, none⟩, .string N0), (⟨mb, mo + k2 * 2 + 1, none⟩, .slice (some ⟨pb, po, none⟩) pl pc), (⟨w.heap.size + 1, 0, none⟩, .string NM), (⟨w.heap.size + 1, 4, none⟩, .slice pra rpn prc), (⟨w.heap.size, 1, none⟩, .slice da dn dc), (⟨pb, po + k3, none⟩, .string PT)]) hs _ | exact AtF.ald (w := wr) (l := [(⟨w.heap.size + 1, 5, none⟩, .slice (some ⟨fb', fo', none⟩) n fc'), (⟨fb', fo' + k1 * 7 + 1, none⟩, .int .i64 kd), (⟨mb, mo + k2 * 2, none⟩, .string N0), (⟨mb, mo + k2 * 2 + 1, none⟩, .slice (some ⟨pb, po, none⟩) pl pc), (⟨w.heap.size + 1, 0, none⟩, .string NM), (⟨w.heap.size + 1, 4, none⟩, .slice pra rpn prc), (⟨w.heap.size, 1, none⟩, .slice da dn dc), (⟨pb, po + k3, none⟩, .string PT)]) hs _)
                    refine heldY 0 84 ?_ _ rfl rfl (by kernel_rfl) (by kernel_rfl) (by kernel_rfl) (fun _ _ _ h => h) rfl (by assumption) ?_ ?_
                    rotate_left
                    · (intro w hSw; (try dsimp only at hSw); go_simp; (try with_reducible rfl))
                    try simp only [List.setIfInBounds_toArray, List.set_cons_zero, List.set_cons_succ]
                    refine heldY 1 85 ?_ _ rfl rfl (by kernel_rfl) (by kernel_rfl) (by kernel_rfl) (fun _ _ _ h => h) rfl (by assumption) ?_ ?_
                    rotate_left
                    · (intro w hSw; (try dsimp only at hSw); go_simp; (try with_reducible rfl))
                    try simp only [List.setIfInBounds_toArray, List.set_cons_zero, List.set_cons_succ]
                    refine heldY 2 86 ?_ _ rfl rfl (by kernel_rfl) (by kernel_rfl) (by kernel_rfl) (fun _ _ _ h => h) rfl (by assumption) ?_ ?_
                    rotate_left
                    · (intro w hSw; (try dsimp only at hSw); go_simp; (try with_reducible rfl))
                    try simp only [List.setIfInBounds_toArray, List.set_cons_zero, List.set_cons_succ]
                    refine heldY 3 87 ?_ _ rfl rfl (by kernel_rfl) (by kernel_rfl) (by kernel_rfl) (fun _ _ _ h => h) rfl (by assumption) ?_ ?_
                    rotate_left
                    · (intro w hSw; (try dsimp only at hSw); go_simp; (try with_reducible rfl))
                    try simp only [List.setIfInBounds_toArray, List.set_cons_zero, List.set_cons_succ]
                    refine heldY 4 88 ?_ _ rfl rfl (by kernel_rfl) (by kernel_rfl) (by kernel_rfl) (fun _ _ _ h => h) rfl (by assumption) ?_ ?_
                    rotate_left
                    · (intro w hSw; (try dsimp only at hSw); go_simp; (try with_reducible rfl))
                    try simp only [List.setIfInBounds_toArray, List.set_cons_zero, List.set_cons_succ]
                    refine heldY 5 89 ?_ _ rfl rfl (by kernel_rfl) (by kernel_rfl) (by kernel_rfl) (fun _ _ _ h => h) rfl (by assumption) ?_ ?_
                    rotate_left
                    · (intro w hSw; (try dsimp only at hSw); go_simp; (try with_reducible rfl))
                    try simp only [List.setIfInBounds_toArray, List.set_cons_zero, List.set_cons_succ]
                    refine heldY 6 90 ?_ _ rfl rfl (by kernel_rfl) (by kernel_rfl) (by kernel_rfl) (fun _ _ _ h => h) rfl (by assumption) ?_ ?_
                    rotate_left
                    · (intro w hSw; (try dsimp only at hSw); go_simp; (try with_reducible rfl))
                    try simp only [List.setIfInBounds_toArray, List.set_cons_zero, List.set_cons_succ]
                    refine heldY 7 91 ?_ _ rfl rfl (by kernel_rfl) (by kernel_rfl) (by kernel_rfl) (fun _ _ _ h => h) rfl (by assumption) ?_ ?_
                    rotate_left
                    · (intro w hSw; (try dsimp only at hSw); go_simp; (try with_reducible rfl))
                    try simp only [List.setIfInBounds_toArray, List.set_cons_zero, List.set_cons_succ]
                    refine heldY 8 92 ?_ _ rfl rfl (by kernel_rfl) (by kernel_rfl) (by kernel_rfl) (fun _ _ _ h => h) rfl (by assumption) ?_ ?_
                    rotate_left
                    · (intro w hSw; (try dsimp only at hSw); go_simp; (try with_reducible rfl))
                    try simp only [List.setIfInBounds_toArray, List.set_cons_zero, List.set_cons_succ]
                    refine heldY 9 93 ?_ _ rfl rfl (by kernel_rfl) (by kernel_rfl) (by kernel_rfl) (fun _ _ _ h => h) rfl (by assumption) ?_ ?_
                    rotate_left
                    · (intro w hSw; (try dsimp only at hSw); go_simp; (try with_reducible rfl))
                    try simp only [List.setIfInBounds_toArray, List.set_cons_zero, List.set_cons_succ]
                    refine heldY 10 94 ?_ _ rfl rfl (by kernel_rfl) (by kernel_rfl) (by kernel_rfl) (fun _ _ _ h => h) rfl (by assumption) ?_ ?_
                    rotate_left
                    · (intro w hSw; (try dsimp only at hSw); go_simp; (try with_reducible rfl))
                    try simp only [List.setIfInBounds_toArray, List.set_cons_zero, List.set_cons_succ]
                    refine heldY 11 95 ?_ _ rfl rfl (by kernel_rfl) (by kernel_rfl) (by kernel_rfl) (fun _ _ _ h => h) rfl (by assumption) ?_ ?_
                    rotate_left
                    · (intro w hSw; (try dsimp only at hSw); go_simp; (try with_reducible rfl))
                    try simp only [List.setIfInBounds_toArray, List.set_cons_zero, List.set_cons_succ]
                    refine heldY 12 96 ?_ _ rfl rfl (by kernel_rfl) (by kernel_rfl) (by kernel_rfl) (fun _ _ _ h => h) rfl (by assumption) ?_ ?_
                    rotate_left
                    · (intro w hSw; (try dsimp only at hSw); go_simp; (try with_reducible rfl))
                    try simp only [List.setIfInBounds_toArray, List.set_cons_zero, List.set_cons_succ]
                    refine heldY 13 97 ?_ _ rfl rfl (by kernel_rfl) (by kernel_rfl) (by kernel_rfl) (fun _ _ _ h => h) rfl (by assumption) ?_ ?_
                    rotate_left
                    · (intro w hSw; (try dsimp only at hSw); go_simp; (try with_reducible rfl))
                    try simp only [List.setIfInBounds_toArray, List.set_cons_zero, List.set_cons_succ]
                    refine heldY 14 98 ?_ _ rfl rfl (by kernel_rfl) (by kernel_rfl) (by kernel_rfl) (fun _ _ _ h => h) rfl (by assumption) ?_ ?_
                    rotate_left
                    · (intro w hSw; (try dsimp only at hSw); go_simp; (try with_reducible rfl))
                    try simp only [List.setIfInBounds_toArray, List.set_cons_zero, List.set_cons_succ]
                    refine heldY 15 99 ?_ _ rfl rfl (by kernel_rfl) (by kernel_rfl) (by kernel_rfl) (fun _ _ _ h => h) rfl (by assumption) ?_ ?_
                    rotate_left
                    · (intro w hSw; (try dsimp only at hSw); go_simp; (try with_reducible rfl))
                    try simp only [List.setIfInBounds_toArray, List.set_cons_zero, List.set_cons_succ]
                    refine heldY 16 100 ?_ _ rfl rfl (by kernel_rfl) (by kernel_rfl) (by kernel_rfl) (fun _ _ _ h => h) rfl (by assumption) ?_ ?_
                    rotate_left
                    · (intro w hSw; (try dsimp only at hSw); go_simp; (try with_reducible rfl))
                    try simp only [List.setIfInBounds_toArray, List.set_cons_zero, List.set_cons_succ]
                    refine heldY 17 101 ?_ _ rfl rfl (by kernel_rfl) (by kernel_rfl) (by kernel_rfl) (fun _ _ _ h => h) rfl (by assumption) ?_ ?_
                    rotate_left
                    · (intro w hSw; (try dsimp only at hSw); go_simp; (try with_reducible rfl))
                    try simp only [List.setIfInBounds_toArray, List.set_cons_zero, List.set_cons_succ]
                    refine heldNo 18 102 rfl (by kernel_rfl) (by kernel_rfl) (by kernel_rfl) (fun _ _ _ h => h) rfl (by assumption) ?_
                    try simp only [List.setIfInBounds_toArray, List.set_cons_zero, List.set_cons_succ]
                    refine heldNo 19 103 rfl (by kernel_rfl) (by kernel_rfl) (by kernel_rfl) (fun _ _ _ h => h) rfl (by assumption) ?_
                    try simp only [List.setIfInBounds_toArray, List.set_cons_zero, List.set_cons_succ]
                    refine heldNo 20 104 rfl (by kernel_rfl) (by kernel_rfl) (by kernel_rfl) (fun _ _ _ h => h) rfl (by assumption) ?_
                    try simp only [List.setIfInBounds_toArray, List.set_cons_zero, List.set_cons_succ]
                    refine heldNo 21 105 rfl (by kernel_rfl) (by kernel_rfl) (by kernel_rfl) (fun _ _ _ h => h) rfl (by assumption) ?_
                    try simp only [List.setIfInBounds_toArray, List.set_cons_zero, List.set_cons_succ]
                    refine heldNo 22 106 rfl (by kernel_rfl) (by kernel_rfl) (by kernel_rfl) (fun _ _ _ h => h) rfl (by assumption) ?_
                    try simp only [List.setIfInBounds_toArray, List.set_cons_zero, List.set_cons_succ]
                    refine heldNo 23 107 rfl (by kernel_rfl) (by kernel_rfl) (by kernel_rfl) (fun _ _ _ h => h) rfl (by assumption) ?_
                    try simp only [List.setIfInBounds_toArray, List.set_cons_zero, List.set_cons_succ]
                    refine heldNo 24 108 rfl (by kernel_rfl) (by kernel_rfl) (by kernel_rfl) (fun _ _ _ h => h) rfl (by assumption) ?_
                    try simp only [List.setIfInBounds_toArray, List.set_cons_zero, List.set_cons_succ]
                    refine heldNo 25 109 rfl (by kernel_rfl) (by kernel_rfl) (by kernel_rfl) (fun _ _ _ h => h) rfl (by assumption) ?_
                    try simp only [List.setIfInBounds_toArray, List.set_cons_zero, List.set_cons_succ]
                    refine heldY 26 110 ?_ _ rfl rfl (by kernel_rfl) (by kernel_rfl) (by kernel_rfl) (fun _ _ _ h => h) rfl (by assumption) ?_ ?_
                    rotate_left
                    · (intro w hSw; (try dsimp only at hSw); go_simp; (try with_reducible rfl))
                    try simp only [List.setIfInBounds_toArray, List.set_cons_zero, List.set_cons_succ]
                    refine heldY 27 111 ?_ _ rfl rfl (by kernel_rfl) (by kernel_rfl) (by kernel_rfl) (fun _ _ _ h => h) rfl (by assumption) ?_ ?_
                    rotate_left
                    · (intro w hSw; (try dsimp only at hSw); go_simp; (try with_reducible rfl))
                    try simp only [List.setIfInBounds_toArray, List.set_cons_zero, List.set_cons_succ]
                    refine heldNo 28 112 rfl (by kernel_rfl) (by kernel_rfl) (by kernel_rfl) (fun _ _ _ h => h) rfl (by assumption) ?_
                    try simp only [List.setIfInBounds_toArray, List.set_cons_zero, List.set_cons_succ]
                    refine heldNo 29 113 rfl (by kernel_rfl) (by kernel_rfl) (by kernel_rfl) (fun _ _ _ h => h) rfl (by assumption) ?_
                    try simp only [List.setIfInBounds_toArray, List.set_cons_zero, List.set_cons_succ]
                    refine heldNo 30 114 rfl (by kernel_rfl) (by kernel_rfl) (by kernel_rfl) (fun _ _ _ h => h) rfl (by assumption) ?_
                    try simp only [List.setIfInBounds_toArray, List.set_cons_zero, List.set_cons_succ]
                    refine heldNo 31 115 rfl (by kernel_rfl) (by kernel_rfl) (by kernel_rfl) (fun _ _ _ h => h) rfl (by assumption) ?_
                    try simp only [List.setIfInBounds_toArray, List.set_cons_zero, List.set_cons_succ]
                    refine heldNo 32 116 rfl (by kernel_rfl) (by kernel_rfl) (by kernel_rfl) (fun _ _ _ h => h) rfl (by assumption) ?_
                    try simp only [List.setIfInBounds_toArray, List.set_cons_zero, List.set_cons_succ]
                    refine heldNo 33 117 rfl (by kernel_rfl) (by kernel_rfl) (by kernel_rfl) (fun _ _ _ h => h) rfl (by assumption) ?_
                    try simp only [List.setIfInBounds_toArray, List.set_cons_zero, List.set_cons_succ]
                    refine heldNo 34 118 rfl (by kernel_rfl) (by kernel_rfl) (by kernel_rfl) (fun _ _ _ h => h) rfl (by assumption) ?_
                    try simp only [List.setIfInBounds_toArray, List.set_cons_zero, List.set_cons_succ]
                    refine heldNo 35 119 rfl (by kernel_rfl) (by kernel_rfl) (by kernel_rfl) (fun _ _ _ h => h) rfl (by assumption) ?_
                    try simp only [List.setIfInBounds_toArray, List.set_cons_zero, List.set_cons_succ]
                    refine heldNo 36 120 rfl (by kernel_rfl) (by kernel_rfl) (by kernel_rfl) (fun _ _ _ h => h) rfl (by assumption) ?_
                    try simp only [List.setIfInBounds_toArray, List.set_cons_zero, List.set_cons_succ]
                    refine heldNo 37 121 rfl (by kernel_rfl) (by kernel_rfl) (by kernel_rfl) (fun _ _ _ h => h) rfl (by assumption) ?_
                    try simp only [List.setIfInBounds_toArray, List.set_cons_zero, List.set_cons_succ]
                    refine heldNo 38 122 rfl (by kernel_rfl) (by kernel_rfl) (by kernel_rfl) (fun _ _ _ h => h) rfl (by assumption) ?_
                    try simp only [List.setIfInBounds_toArray, List.set_cons_zero, List.set_cons_succ]
                    refine heldNo 39 123 rfl (by kernel_rfl) (by kernel_rfl) (by kernel_rfl) (fun _ _ _ h => h) rfl (by assumption) ?_
                    try simp only [List.setIfInBounds_toArray, List.set_cons_zero, List.set_cons_succ]
                    refine heldNo 40 124 rfl (by kernel_rfl) (by kernel_rfl) (by kernel_rfl) (fun _ _ _ h => h) rfl (by assumption) ?_
                    try simp only [List.setIfInBounds_toArray, List.set_cons_zero, List.set_cons_succ]
                    refine heldNo 41 125 rfl (by kernel_rfl) (by kernel_rfl) (by kernel_rfl) (fun _ _ _ h => h) rfl (by assumption) ?_
                    try simp only [List.setIfInBounds_toArray, List.set_cons_zero, List.set_cons_succ]
                    refine heldNo 42 126 rfl (by kernel_rfl) (by kernel_rfl) (by kernel_rfl) (fun _ _ _ h => h) rfl (by assumption) ?_
                    try simp only [List.setIfInBounds_toArray, List.set_cons_zero, List.set_cons_succ]
                    refine heldNo 43 127 rfl (by kernel_rfl) (by kernel_rfl) (by kernel_rfl) (fun _ _ _ h => h) rfl (by assumption) ?_
                    try simp only [List.setIfInBounds_toArray, List.set_cons_zero, List.set_cons_succ]
                    refine heldNo 44 128 rfl (by kernel_rfl) (by kernel_rfl) (by kernel_rfl) (fun _ _ _ h => h) rfl (by assumption) ?_
                    try simp only [List.setIfInBounds_toArray, List.set_cons_zero, List.set_cons_succ]
                    refine heldNo 45 129 rfl (by kernel_rfl) (by kernel_rfl) (by kernel_rfl) (fun _ _ _ h => h) rfl (by assumption) ?_
                    try simp only [List.setIfInBounds_toArray, List.set_cons_zero, List.set_cons_succ]
                    refine heldY 46 130 ?_ _ rfl rfl (by kernel_rfl) (by kernel_rfl) (by kernel_rfl) (fun _ _ _ h => h) rfl (by assumption) ?_ ?_
                    rotate_left
                    · (intro w hSw; (try dsimp only at hSw); go_simp; (try with_reducible rfl))
                    try simp only [List.setIfInBounds_toArray, List.set_cons_zero, List.set_cons_succ]
                    refine wpAnyH_done (by kernel_rfl) ?_ _
                    have HB6 := Lib.hid (HB.out.trans ((BE _ hHeld).mono HB.out.size))
                    clear hHeld hs
                    go_wp2
                    go_roundw
                    case rel => exact ⟨k3 + 1, by omega, by go_num, HB6⟩
                    case measure => simp [intOf]; omega
                  rw [decide_eq_false hnn] at hN
                  by_cases hrr : x.1.1 ∈ rp
                  · have hne := HEP.out hnn hrr hkd
                    rw [decide_eq_false hne] at hE
                    rw [decide_eq_true hrr] at HAx
                    clear hnn hrr hne HEP hkd
                    go_wp2
                    have BE := fun (V : World) (h : V.cell? ⟨w.heap.size + 1, 5, none⟩ = some (.slice (some ⟨fb', fo', none⟩) n fc') ∧ V.cell? ⟨fb', fo' + k1 * 7 + 1, none⟩ = some (.int .i64 kd) ∧ V.cell? ⟨mb, mo + k2 * 2, none⟩ = some (.string N0) ∧ V.cell? ⟨mb, mo + k2 * 2 + 1, none⟩ = some (.slice (some ⟨pb, po, none⟩) pl pc) ∧ V.cell? ⟨w.heap.size + 1, 0, none⟩ = some (.string NM) ∧ V.cell? ⟨w.heap.size + 1, 4, none⟩ = some (.slice pra rpn prc) ∧ V.cell? ⟨w.heap.size, 1, none⟩ = some (.slice da dn dc) ∧ V.cell? ⟨pb, po + k3, none⟩ = some (.string PT) ∧ Below wr.heap.size wr V) => AtF.be (w := wr) (l := [(⟨w.heap.size + 1, 5, none⟩, .slice (some ⟨fb', fo', none⟩) n fc'), (⟨fb', fo' + k1 * 7 + 1, none⟩, .int .i64 kd), (⟨mb, mo + k2 * 2, none⟩, .string N0), (⟨mb, mo + k2 * 2 + 1, none⟩, .slice (some ⟨pb, po, none⟩) pl pc), (⟨w.heap.size + 1, 0, none⟩, .string NM), (⟨w.heap.size + 1, 4, none⟩, .slice pra rpn prc), (⟨w.heap.size, 1, none⟩, .slice da dn dc), (⟨pb, po + k3, none⟩, .string PT)]) h
                    refine wp_region_held_drew (S := (fun V => V.cell? ⟨w.heap.size + 1, 5, none⟩ = some (.slice (some ⟨fb', fo', none⟩) n fc') ∧ V.cell? ⟨fb', fo' + k1 * 7 + 1, none⟩ = some (.int .i64 kd) ∧ V.cell? ⟨mb, mo + k2 * 2, none⟩ = some (.string N0) ∧ V.cell? ⟨mb, mo + k2 * 2 + 1, none⟩ = some (.slice (some ⟨pb, po, none⟩) pl pc) ∧ V.cell? ⟨w.heap.size + 1, 0, none⟩ = some (.string NM) ∧ V.cell? ⟨w.heap.size + 1, 4, none⟩ = some (.slice pra rpn prc) ∧ V.cell? ⟨w.heap.size, 1, none⟩ = some (.slice da dn dc) ∧ V.cell? ⟨pb, po + k3, none⟩ = some (.string PT) ∧ Below wr.heap.size wr V)) (by kernel_rfl) ?_ (fun hHeld => ?_)
                    · (try dsimp only); (first | assumption | exact hs | exact AtF.dr (w := wr) (l := [(⟨w.heap.size + 1, 5, none⟩, .slice (some ⟨fb', fo', none⟩) n fc'), (⟨fb', fo' + k1 * 7 + 1, none⟩, .int .i64 kd), (⟨mb, mo + k2 * 2, none⟩, .string N0), (⟨mb, mo + k2 * 2 + 1, none⟩, .slice (some ⟨pb, po, none⟩) pl pc), (⟨w.heap.size + 1, 0, none⟩, .string NM), (⟨w.heap.size + 1, 4, none⟩, .slice pra rpn prc), (⟨w.heap.size, 1, none⟩, .slice da dn dc), (⟨pb, po + k3, none⟩, .string PT)]) hs | exact AtF.dr (w := wr) (l := [(⟨w.heap.size + 1, 5, none⟩, .slice (some ⟨fb', fo', none⟩) n fc'), (⟨fb', fo' + k1 * 7 + 1, none⟩, .int .i64 kd), (⟨mb, mo + k2 * 2, none⟩, .string N0), (⟨mb, mo + k2 * 2 + 1, none⟩, .slice (some ⟨pb, po, none⟩) pl pc), (⟨w.heap.size + 1, 0, none⟩, .string NM), (⟨w.heap.size + 1, 4, none⟩, .slice pra rpn prc), (⟨w.heap.size, 1, none⟩, .slice da dn dc), (⟨pb, po + k3, none⟩, .string PT)]) (by assumption) | exact AtF.on (w := wr) (l := [(⟨w.heap.size + 1, 5, none⟩, .slice (some ⟨fb', fo', none⟩) n fc'), (⟨fb', fo' + k1 * 7 + 1, none⟩, .int .i64 kd), (⟨mb, mo + k2 * 2, none⟩, .string N0), (⟨mb, mo + k2 * 2 + 1, none⟩, .slice (some ⟨pb, po, none⟩) pl pc), (⟨w.heap.size + 1, 0, none⟩, .string NM), (⟨w.heap.size + 1, 4, none⟩, .slice pra rpn prc), (⟨w.heap.size, 1, none⟩, .slice da dn dc), (⟨pb, po + k3, none⟩, .string PT)]) (by assumption) (by assumption) | exact AtF.al (w := wr) (l := [(⟨w.heap.size + 1, 5, none⟩, .slice (some ⟨fb', fo', none⟩) n fc'), (⟨fb', fo' + k1 * 7 + 1, none⟩, .int .i64 kd), (⟨mb, mo + k2 * 2, none⟩, .string N0), (⟨mb, mo + k2 * 2 + 1, none⟩, .slice (some ⟨pb, po, none⟩) pl pc), (⟨w.heap.size + 1, 0, none⟩, .string NM), (⟨w.heap.size + 1, 4, none⟩, .slice pra rpn prc), (⟨w.heap.size, 1, none⟩, .slice da dn dc), (⟨pb, po + k3, none⟩, .string PT)]) (by assumption) _ | exact AtF.ald (w := wr) (l := [(⟨w.heap.size + 1, 5, none⟩, .slice (some ⟨fb', fo', none⟩) n fc'), (⟨fb', fo' + k1 * 7 + 1, none⟩, .int .i64 kd), (⟨mb, mo + k2 * 2, none⟩, .string N0), (⟨mb, mo + k2 * 2 + 1, none⟩, .slice (some ⟨pb, po, none⟩) pl pc), (⟨w.heap.size + 1, 0, none⟩, .string NM), (⟨w.heap.size + 1, 4, none⟩, .slice pra rpn prc), (⟨w.heap.size, 1, none⟩, .slice da dn dc), (⟨pb, po + k3, none⟩, .string PT)]) (by assumption) _ | exact AtF.al (w := wr) (l := [(⟨w.heap.size + 1, 5, none⟩, .slice (some ⟨fb', fo', none⟩) n fc'), (⟨fb', fo' + k1 * 7 + 1, none⟩, .int .i64 kd), (⟨mb, mo + k2 * 2, none⟩, .string N0), (⟨mb, mo + k2 * 2 + 1, none⟩, .slice (some ⟨pb, po, none⟩) pl pc), (⟨w.heap.size + 1, 0, none⟩, .string NM), (⟨w.heap.size + 1, 4, none⟩, .slice pra rpn prc), (⟨w.heap.size, 1, none⟩, .slice da dn dc), (⟨pb, po + k3, none⟩, .string PT)]) hs _ | exact AtF.ald (w := wr) (l := [(⟨w.heap.size + 1, 5, none⟩, .slice (some ⟨fb', fo', none⟩) n fc'), (⟨fb', fo' + k1 * 7 + 1, none⟩, .int .i64 kd), (⟨mb, mo + k2 * 2, none⟩, .string N0), (⟨mb, mo + k2 * 2 + 1, none⟩, .slice (some ⟨pb, po, none⟩) pl pc), (⟨w.heap.size + 1, 0, none⟩, .string NM), (⟨w.heap.size + 1, 4, none⟩, .slice pra rpn prc), (⟨w.heap.size, 1, none⟩, .slice da dn dc), (⟨pb, po + k3, none⟩, .string PT)]) hs _)
                    refine heldY 0 84 ?_ _ rfl rfl (by kernel_rfl) (by kernel_rfl) (by kernel_rfl) (fun _ _ _ h => h) rfl (by assumption) ?_ ?_
                    rotate_left
                    · (intro w hSw; (try dsimp only at hSw); go_simp; (try with_reducible rfl))
                    try simp only [List.setIfInBounds_toArray, List.set_cons_zero, List.set_cons_succ]
                    refine heldY 1 85 ?_ _ rfl rfl (by kernel_rfl) (by kernel_rfl) (by kernel_rfl) (fun _ _ _ h => h) rfl (by assumption) ?_ ?_
                    rotate_left
                    · (intro w hSw; (try dsimp only at hSw); go_simp; (try with_reducible rfl))
                    try simp only [List.setIfInBounds_toArray, List.set_cons_zero, List.set_cons_succ]
                    refine heldY 2 86 ?_ _ rfl rfl (by kernel_rfl) (by kernel_rfl) (by kernel_rfl) (fun _ _ _ h => h) rfl (by assumption) ?_ ?_
                    rotate_left
                    · (intro w hSw; (try dsimp only at hSw); go_simp; (try with_reducible rfl))
                    try simp only [List.setIfInBounds_toArray, List.set_cons_zero, List.set_cons_succ]
                    refine heldY 3 87 ?_ _ rfl rfl (by kernel_rfl) (by kernel_rfl) (by kernel_rfl) (fun _ _ _ h => h) rfl (by assumption) ?_ ?_
                    rotate_left
                    · (intro w hSw; (try dsimp only at hSw); go_simp; (try with_reducible rfl))
                    try simp only [List.setIfInBounds_toArray, List.set_cons_zero, List.set_cons_succ]
                    refine heldY 4 88 ?_ _ rfl rfl (by kernel_rfl) (by kernel_rfl) (by kernel_rfl) (fun _ _ _ h => h) rfl (by assumption) ?_ ?_
                    rotate_left
                    · (intro w hSw; (try dsimp only at hSw); go_simp; (try with_reducible rfl))
                    try simp only [List.setIfInBounds_toArray, List.set_cons_zero, List.set_cons_succ]
                    refine heldY 5 89 ?_ _ rfl rfl (by kernel_rfl) (by kernel_rfl) (by kernel_rfl) (fun _ _ _ h => h) rfl (by assumption) ?_ ?_
                    rotate_left
                    · (intro w hSw; (try dsimp only at hSw); go_simp; (try with_reducible rfl))
                    try simp only [List.setIfInBounds_toArray, List.set_cons_zero, List.set_cons_succ]
                    refine heldY 6 90 ?_ _ rfl rfl (by kernel_rfl) (by kernel_rfl) (by kernel_rfl) (fun _ _ _ h => h) rfl (by assumption) ?_ ?_
                    rotate_left
                    · (intro w hSw; (try dsimp only at hSw); go_simp; (try with_reducible rfl))
                    try simp only [List.setIfInBounds_toArray, List.set_cons_zero, List.set_cons_succ]
                    refine heldY 7 91 ?_ _ rfl rfl (by kernel_rfl) (by kernel_rfl) (by kernel_rfl) (fun _ _ _ h => h) rfl (by assumption) ?_ ?_
                    rotate_left
                    · (intro w hSw; (try dsimp only at hSw); go_simp; (try with_reducible rfl))
                    try simp only [List.setIfInBounds_toArray, List.set_cons_zero, List.set_cons_succ]
                    refine heldY 8 92 ?_ _ rfl rfl (by kernel_rfl) (by kernel_rfl) (by kernel_rfl) (fun _ _ _ h => h) rfl (by assumption) ?_ ?_
                    rotate_left
                    · (intro w hSw; (try dsimp only at hSw); go_simp; (try with_reducible rfl))
                    try simp only [List.setIfInBounds_toArray, List.set_cons_zero, List.set_cons_succ]
                    refine heldY 9 93 ?_ _ rfl rfl (by kernel_rfl) (by kernel_rfl) (by kernel_rfl) (fun _ _ _ h => h) rfl (by assumption) ?_ ?_
                    rotate_left
                    · (intro w hSw; (try dsimp only at hSw); go_simp; (try with_reducible rfl))
                    try simp only [List.setIfInBounds_toArray, List.set_cons_zero, List.set_cons_succ]
                    refine heldY 10 94 ?_ _ rfl rfl (by kernel_rfl) (by kernel_rfl) (by kernel_rfl) (fun _ _ _ h => h) rfl (by assumption) ?_ ?_
                    rotate_left
                    · (intro w hSw; (try dsimp only at hSw); go_simp; (try with_reducible rfl))
                    try simp only [List.setIfInBounds_toArray, List.set_cons_zero, List.set_cons_succ]
                    refine heldY 11 95 ?_ _ rfl rfl (by kernel_rfl) (by kernel_rfl) (by kernel_rfl) (fun _ _ _ h => h) rfl (by assumption) ?_ ?_
                    rotate_left
                    · (intro w hSw; (try dsimp only at hSw); go_simp; (try with_reducible rfl))
                    try simp only [List.setIfInBounds_toArray, List.set_cons_zero, List.set_cons_succ]
                    refine heldY 12 96 ?_ _ rfl rfl (by kernel_rfl) (by kernel_rfl) (by kernel_rfl) (fun _ _ _ h => h) rfl (by assumption) ?_ ?_
                    rotate_left
                    · (intro w hSw; (try dsimp only at hSw); go_simp; (try with_reducible rfl))
                    try simp only [List.setIfInBounds_toArray, List.set_cons_zero, List.set_cons_succ]
                    refine heldY 13 97 ?_ _ rfl rfl (by kernel_rfl) (by kernel_rfl) (by kernel_rfl) (fun _ _ _ h => h) rfl (by assumption) ?_ ?_
                    rotate_left
                    · (intro w hSw; (try dsimp only at hSw); go_simp; (try with_reducible rfl))
                    try simp only [List.setIfInBounds_toArray, List.set_cons_zero, List.set_cons_succ]
                    refine heldY 14 98 ?_ _ rfl rfl (by kernel_rfl) (by kernel_rfl) (by kernel_rfl) (fun _ _ _ h => h) rfl (by assumption) ?_ ?_
                    rotate_left
                    · (intro w hSw; (try dsimp only at hSw); go_simp; (try with_reducible rfl))
                    try simp only [List.setIfInBounds_toArray, List.set_cons_zero, List.set_cons_succ]
                    refine heldY 15 99 ?_ _ rfl rfl (by kernel_rfl) (by kernel_rfl) (by kernel_rfl) (fun _ _ _ h => h) rfl (by assumption) ?_ ?_
                    rotate_left
                    · (intro w hSw; (try dsimp only at hSw); go_simp; (try with_reducible rfl))
                    try simp only [List.setIfInBounds_toArray, List.set_cons_zero, List.set_cons_succ]
                    refine heldY 16 100 ?_ _ rfl rfl (by kernel_rfl) (by kernel_rfl) (by kernel_rfl) (fun _ _ _ h => h) rfl (by assumption) ?_ ?_
                    rotate_left
                    · (intro w hSw; (try dsimp only at hSw); go_simp; (try with_reducible rfl))
                    try simp only [List.setIfInBounds_toArray, List.set_cons_zero, List.set_cons_succ]
                    refine heldY 17 101 ?_ _ rfl rfl (by kernel_rfl) (by kernel_rfl) (by kernel_rfl) (fun _ _ _ h => h) rfl (by assumption) ?_ ?_
                    rotate_left
                    · (intro w hSw; (try dsimp only at hSw); go_simp; (try with_reducible rfl))
                    try simp only [List.setIfInBounds_toArray, List.set_cons_zero, List.set_cons_succ]
                    refine heldY 18 102 ?_ _ rfl rfl (by kernel_rfl) (by kernel_rfl) (by kernel_rfl) (fun _ _ _ h => h) rfl (by assumption) ?_ ?_
                    rotate_left
                    · (intro w hSw; (try dsimp only at hSw); go_simp; (try with_reducible rfl))
                    try simp only [List.setIfInBounds_toArray, List.set_cons_zero, List.set_cons_succ]
                    refine heldY 19 103 ?_ _ rfl rfl (by kernel_rfl) (by kernel_rfl) (by kernel_rfl) (fun _ _ _ h => h) rfl (by assumption) ?_ ?_
                    rotate_left
                    · (intro w hSw; (try dsimp only at hSw); go_simp; (try with_reducible rfl))
                    try simp only [List.setIfInBounds_toArray, List.set_cons_zero, List.set_cons_succ]
                    refine heldY 20 104 ?_ _ rfl rfl (by kernel_rfl) (by kernel_rfl) (by kernel_rfl) (fun _ _ _ h => h) rfl (by assumption) ?_ ?_
                    rotate_left
                    · (intro w hSw; (try dsimp only at hSw); go_simp; (try with_reducible rfl))
                    try simp only [List.setIfInBounds_toArray, List.set_cons_zero, List.set_cons_succ]
                    refine heldY 21 105 ?_ _ rfl rfl (by kernel_rfl) (by kernel_rfl) (by kernel_rfl) (fun _ _ _ h => h) rfl (by assumption) ?_ ?_
                    rotate_left
                    · (intro w hSw; (try dsimp only at hSw); go_simp; (try with_reducible rfl))
                    try simp only [List.setIfInBounds_toArray, List.set_cons_zero, List.set_cons_succ]
                    refine heldY 22 106 ?_ _ rfl rfl (by kernel_rfl) (by kernel_rfl) (by kernel_rfl) (fun _ _ _ h => h) rfl (by assumption) ?_ ?_
                    rotate_left
                    · (intro w hSw; (try dsimp only at hSw); go_simp; (try with_reducible rfl))
                    try simp only [List.setIfInBounds_toArray, List.set_cons_zero, List.set_cons_succ]
                    refine heldY 23 107 ?_ _ rfl rfl (by kernel_rfl) (by kernel_rfl) (by kernel_rfl) (fun _ _ _ h => h) rfl (by assumption) ?_ ?_
                    rotate_left
                    · (intro w hSw; (try dsimp only at hSw); go_simp; (try with_reducible rfl))
                    try simp only [List.setIfInBounds_toArray, List.set_cons_zero, List.set_cons_succ]
                    refine heldY 24 108 ?_ _ rfl rfl (by kernel_rfl) (by kernel_rfl) (by kernel_rfl) (fun _ _ _ h => h) rfl (by assumption) ?_ ?_
                    rotate_left
                    · (intro w hSw; (try dsimp only at hSw); go_simp; (try with_reducible rfl))
                    try simp only [List.setIfInBounds_toArray, List.set_cons_zero, List.set_cons_succ]
                    refine wpAnyH_ready (rs := [25]) (by kernel_rfl) (by simp) ?_
                    refine AllReadyH.cons rfl (fun K hK => ?_) AllReadyH.nil
                    go_simp
                    first | (go_at_call 31; (with_reducible refine (HAx.out _ (BE _ (by assumption))).mono ?_); rintro e w3 ⟨rfl, hb⟩) | (go_at_call 30; (with_reducible refine (TPx.out _ (BE _ (by assumption))).mono ?_); rintro e w3 ⟨rfl, hb⟩)
                    refine hK.out _ _ ?_ (fun hHeld => ?_)
                    · (try dsimp only); (first | assumption | exact hs | exact AtF.dr (w := wr) (l := [(⟨w.heap.size + 1, 5, none⟩, .slice (some ⟨fb', fo', none⟩) n fc'), (⟨fb', fo' + k1 * 7 + 1, none⟩, .int .i64 kd), (⟨mb, mo + k2 * 2, none⟩, .string N0), (⟨mb, mo + k2 * 2 + 1, none⟩, .slice (some ⟨pb, po, none⟩) pl pc), (⟨w.heap.size + 1, 0, none⟩, .string NM), (⟨w.heap.size + 1, 4, none⟩, .slice pra rpn prc), (⟨w.heap.size, 1, none⟩, .slice da dn dc), (⟨pb, po + k3, none⟩, .string PT)]) hs | exact AtF.dr (w := wr) (l := [(⟨w.heap.size + 1, 5, none⟩, .slice (some ⟨fb', fo', none⟩) n fc'), (⟨fb', fo' + k1 * 7 + 1, none⟩, .int .i64 kd), (⟨mb, mo + k2 * 2, none⟩, .string N0), (⟨mb, mo + k2 * 2 + 1, none⟩, .slice (some ⟨pb, po, none⟩) pl pc), (⟨w.heap.size + 1, 0, none⟩, .string NM), (⟨w.heap.size + 1, 4, none⟩, .slice pra rpn prc), (⟨w.heap.size, 1, none⟩, .slice da dn dc), (⟨pb, po + k3, none⟩, .string PT)]) (by assumption) | exact AtF.on (w := wr) (l := [(⟨w.heap.size + 1, 5, none⟩, .slice (some ⟨fb', fo', none⟩) n fc'), (⟨fb', fo' + k1 * 7 + 1, none⟩, .int .i64 kd), (⟨mb, mo + k2 * 2, none⟩, .string N0), (⟨mb, mo + k2 * 2 + 1, none⟩, .slice (some ⟨pb, po, none⟩) pl pc), (⟨w.heap.size + 1, 0, none⟩, .string NM), (⟨w.heap.size + 1, 4, none⟩, .slice pra rpn prc), (⟨w.heap.size, 1, none⟩, .slice da dn dc), (⟨pb, po + k3, none⟩, .string PT)]) (by assumption) (by assumption) | exact AtF.al (w := wr) (l := [(⟨w.heap.size + 1, 5, none⟩, .slice (some ⟨fb', fo', none⟩) n fc'), (⟨fb', fo' + k1 * 7 + 1, none⟩, .int .i64 kd), (⟨mb, mo + k2 * 2, none⟩, .string N0), (⟨mb, mo + k2 * 2 + 1, none⟩, .slice (some ⟨pb, po, none⟩) pl pc), (⟨w.heap.size + 1, 0, none⟩, .string NM), (⟨w.heap.size + 1, 4, none⟩, .slice pra rpn prc), (⟨w.heap.size, 1, none⟩, .slice da dn dc), (⟨pb, po + k3, none⟩, .string PT)]) (by assumption) _ | exact AtF.ald (w := wr) (l := [(⟨w.heap.size + 1, 5, none⟩, .slice (some ⟨fb', fo', none⟩) n fc'), (⟨fb', fo' + k1 * 7 + 1, none⟩, .int .i64 kd), (⟨mb, mo + k2 * 2, none⟩, .string N0), (⟨mb, mo + k2 * 2 + 1, none⟩, .slice (some ⟨pb, po, none⟩) pl pc), (⟨w.heap.size + 1, 0, none⟩, .string NM), (⟨w.heap.size + 1, 4, none⟩, .slice pra rpn prc), (⟨w.heap.size, 1, none⟩, .slice da dn dc), (⟨pb, po + k3, none⟩, .string PT)]) (by assumption) _ | exact AtF.al (w := wr) (l := [(⟨w.heap.size + 1, 5, none⟩, .slice (some ⟨fb', fo', none⟩) n fc'), (⟨fb', fo' + k1 * 7 + 1, none⟩, .int .i64 kd), (⟨mb, mo + k2 * 2, none⟩, .string N0), (⟨mb, mo + k2 * 2 + 1, none⟩, .slice (some ⟨pb, po, none⟩) pl pc), (⟨w.heap.size + 1, 0, none⟩, .string NM), (⟨w.heap.size + 1, 4, none⟩, .slice pra rpn prc), (⟨w.heap.size, 1, none⟩, .slice da dn dc), (⟨pb, po + k3, none⟩, .string PT)]) hs _ | exact AtF.ald (w := wr) (l := [(⟨w.heap.size + 1, 5, none⟩, .slice (some ⟨fb', fo', none⟩) n fc'), (⟨fb', fo' + k1 * 7 + 1, none⟩, .int .i64 kd), (⟨mb, mo + k2 * 2, none⟩, .string N0), (⟨mb, mo + k2 * 2 + 1, none⟩, .slice (some ⟨pb, po, none⟩) pl pc), (⟨w.heap.size + 1, 0, none⟩, .string NM), (⟨w.heap.size + 1, 4, none⟩, .slice pra rpn prc), (⟨w.heap.size, 1, none⟩, .slice da dn dc), (⟨pb, po + k3, none⟩, .string PT)]) hs _)
                    clear hK K
                    try simp only [Act.put, List.setIfInBounds_toArray, List.set_cons_zero, List.set_cons_succ]
                    refine heldY 26 110 ?_ _ rfl rfl (by kernel_rfl) (by kernel_rfl) (by kernel_rfl) (fun _ _ _ h => h) rfl (by assumption) ?_ ?_
                    rotate_left
                    · (intro w hSw; (try dsimp only at hSw); go_simp; (try with_reducible rfl))
                    try simp only [List.setIfInBounds_toArray, List.set_cons_zero, List.set_cons_succ]
                    refine heldY 27 111 ?_ _ rfl rfl (by kernel_rfl) (by kernel_rfl) (by kernel_rfl) (fun _ _ _ h => h) rfl (by assumption) ?_ ?_
                    rotate_left
                    · (intro w hSw; (try dsimp only at hSw); go_simp; (try with_reducible rfl))
                    try simp only [List.setIfInBounds_toArray, List.set_cons_zero, List.set_cons_succ]
                    refine heldY 28 112 ?_ _ rfl rfl (by kernel_rfl) (by kernel_rfl) (by kernel_rfl) (fun _ _ _ h => h) rfl (by assumption) ?_ ?_
                    rotate_left
                    · (intro w hSw; (try dsimp only at hSw); go_simp; (try with_reducible rfl))
                    try simp only [List.setIfInBounds_toArray, List.set_cons_zero, List.set_cons_succ]
                    refine heldY 29 113 ?_ _ rfl rfl (by kernel_rfl) (by kernel_rfl) (by kernel_rfl) (fun _ _ _ h => h) rfl (by assumption) ?_ ?_
                    rotate_left
                    · (intro w hSw; (try dsimp only at hSw); go_simp; (try with_reducible rfl))
                    try simp only [List.setIfInBounds_toArray, List.set_cons_zero, List.set_cons_succ]
                    refine heldY 30 114 ?_ _ rfl rfl (by kernel_rfl) (by kernel_rfl) (by kernel_rfl) (fun _ _ _ h => h) rfl (by assumption) ?_ ?_
                    rotate_left
                    · (intro w hSw; (try dsimp only at hSw); go_simp; (try with_reducible rfl))
                    try simp only [List.setIfInBounds_toArray, List.set_cons_zero, List.set_cons_succ]
                    refine heldY 31 115 ?_ _ rfl rfl (by kernel_rfl) (by kernel_rfl) (by kernel_rfl) (fun _ _ _ h => h) rfl (by assumption) ?_ ?_
                    rotate_left
                    · (intro w hSw; (try dsimp only at hSw); go_simp; (try with_reducible rfl))
                    try simp only [List.setIfInBounds_toArray, List.set_cons_zero, List.set_cons_succ]
                    refine heldY 32 116 ?_ _ rfl rfl (by kernel_rfl) (by kernel_rfl) (by kernel_rfl) (fun _ _ _ h => h) rfl (by assumption) ?_ ?_
                    rotate_left
                    · (intro w hSw; (try dsimp only at hSw); go_simp; (try with_reducible rfl))
                    try simp only [List.setIfInBounds_toArray, List.set_cons_zero, List.set_cons_succ]
                    refine heldY 33 117 ?_ _ rfl rfl (by kernel_rfl) (by kernel_rfl) (by kernel_rfl) (fun _ _ _ h => h) rfl (by assumption) ?_ ?_
                    rotate_left
                    · (intro w hSw; (try dsimp only at hSw); go_simp; (try with_reducible rfl))
                    try simp only [List.setIfInBounds_toArray, List.set_cons_zero, List.set_cons_succ]
                    refine heldY 34 118 ?_ _ rfl rfl (by kernel_rfl) (by kernel_rfl) (by kernel_rfl) (fun _ _ _ h => h) rfl (by assumption) ?_ ?_
                    rotate_left
                    · (intro w hSw; (try dsimp only at hSw); go_simp; (try with_reducible rfl))
                    try simp only [List.setIfInBounds_toArray, List.set_cons_zero, List.set_cons_succ]
                    refine heldY 35 119 ?_ _ rfl rfl (by kernel_rfl) (by kernel_rfl) (by kernel_rfl) (fun _ _ _ h => h) rfl (by assumption) ?_ ?_
                    rotate_left
                    · (intro w hSw; (try dsimp only at hSw); go_simp; (try with_reducible rfl))
                    try simp only [List.setIfInBounds_toArray, List.set_cons_zero, List.set_cons_succ]
                    refine heldY 36 120 ?_ _ rfl rfl (by kernel_rfl) (by kernel_rfl) (by kernel_rfl) (fun _ _ _ h => h) rfl (by assumption) ?_ ?_
                    rotate_left
                    · (intro w hSw; (try dsimp only at hSw); go_simp; (try with_reducible rfl))
                    try simp only [List.setIfInBounds_toArray, List.set_cons_zero, List.set_cons_succ]
                    refine heldY 37 121 ?_ _ rfl rfl (by kernel_rfl) (by kernel_rfl) (by kernel_rfl) (fun _ _ _ h => h) rfl (by assumption) ?_ ?_
                    rotate_left
                    · (intro w hSw; (try dsimp only at hSw); go_simp; (try with_reducible rfl))
                    try simp only [List.setIfInBounds_toArray, List.set_cons_zero, List.set_cons_succ]
                    refine heldY 38 122 ?_ _ rfl rfl (by kernel_rfl) (by kernel_rfl) (by kernel_rfl) (fun _ _ _ h => h) rfl (by assumption) ?_ ?_
                    rotate_left
                    · (intro w hSw; (try dsimp only at hSw); go_simp; (try with_reducible rfl))
                    try simp only [List.setIfInBounds_toArray, List.set_cons_zero, List.set_cons_succ]
                    refine heldY 39 123 ?_ _ rfl rfl (by kernel_rfl) (by kernel_rfl) (by kernel_rfl) (fun _ _ _ h => h) rfl (by assumption) ?_ ?_
                    rotate_left
                    · (intro w hSw; (try dsimp only at hSw); go_simp; (try with_reducible rfl))
                    try simp only [List.setIfInBounds_toArray, List.set_cons_zero, List.set_cons_succ]
                    refine heldY 40 124 ?_ _ rfl rfl (by kernel_rfl) (by kernel_rfl) (by kernel_rfl) (fun _ _ _ h => h) rfl (by assumption) ?_ ?_
                    rotate_left
                    · (intro w hSw; (try dsimp only at hSw); go_simp; (try with_reducible rfl))
                    try simp only [List.setIfInBounds_toArray, List.set_cons_zero, List.set_cons_succ]
                    refine heldY 41 125 ?_ _ rfl rfl (by kernel_rfl) (by kernel_rfl) (by kernel_rfl) (fun _ _ _ h => h) rfl (by assumption) ?_ ?_
                    rotate_left
                    · (intro w hSw; (try dsimp only at hSw); go_simp; (try with_reducible rfl))
                    try simp only [List.setIfInBounds_toArray, List.set_cons_zero, List.set_cons_succ]
                    refine heldY 42 126 ?_ _ rfl rfl (by kernel_rfl) (by kernel_rfl) (by kernel_rfl) (fun _ _ _ h => h) rfl (by assumption) ?_ ?_
                    rotate_left
                    · (intro w hSw; (try dsimp only at hSw); go_simp; (try with_reducible rfl))
                    try simp only [List.setIfInBounds_toArray, List.set_cons_zero, List.set_cons_succ]
                    refine heldY 44 128 ?_ _ rfl rfl (by kernel_rfl) (by kernel_rfl) (by kernel_rfl) (fun _ _ _ h => h) rfl (by assumption) ?_ ?_
                    rotate_left
                    · (intro w hSw; (try dsimp only at hSw); go_simp; (try with_reducible rfl))
                    try simp only [List.setIfInBounds_toArray, List.set_cons_zero, List.set_cons_succ]
                    refine wpAnyH_ready (rs := [43]) (by kernel_rfl) (by simp) ?_
                    refine AllReadyH.cons rfl (fun K hK => ?_) AllReadyH.nil
                    go_simp
                    first | (go_at_call 31; (with_reducible refine (HAx.out _ (BE _ (by assumption))).mono ?_); rintro e w3 ⟨rfl, hb⟩) | (go_at_call 30; (with_reducible refine (TPx.out _ (BE _ (by assumption))).mono ?_); rintro e w3 ⟨rfl, hb⟩)
                    refine hK.out _ _ ?_ (fun hHeld => ?_)
                    · (try dsimp only); (first | assumption | exact hs | exact AtF.dr (w := wr) (l := [(⟨w.heap.size + 1, 5, none⟩, .slice (some ⟨fb', fo', none⟩) n fc'), (⟨fb', fo' + k1 * 7 + 1, none⟩, .int .i64 kd), (⟨mb, mo + k2 * 2, none⟩, .string N0), (⟨mb, mo + k2 * 2 + 1, none⟩, .slice (some ⟨pb, po, none⟩) pl pc), (⟨w.heap.size + 1, 0, none⟩, .string NM), (⟨w.heap.size + 1, 4, none⟩, .slice pra rpn prc), (⟨w.heap.size, 1, none⟩, .slice da dn dc), (⟨pb, po + k3, none⟩, .string PT)]) hs | exact AtF.dr (w := wr) (l := [(⟨w.heap.size + 1, 5, none⟩, .slice (some ⟨fb', fo', none⟩) n fc'), (⟨fb', fo' + k1 * 7 + 1, none⟩, .int .i64 kd), (⟨mb, mo + k2 * 2, none⟩, .string N0), (⟨mb, mo + k2 * 2 + 1, none⟩, .slice (some ⟨pb, po, none⟩) pl pc), (⟨w.heap.size + 1, 0, none⟩, .string NM), (⟨w.heap.size + 1, 4, none⟩, .slice pra rpn prc), (⟨w.heap.size, 1, none⟩, .slice da dn dc), (⟨pb, po + k3, none⟩, .string PT)]) (by assumption) | exact AtF.on (w := wr) (l := [(⟨w.heap.size + 1, 5, none⟩, .slice (some ⟨fb', fo', none⟩) n fc'), (⟨fb', fo' + k1 * 7 + 1, none⟩, .int .i64 kd), (⟨mb, mo + k2 * 2, none⟩, .string N0), (⟨mb, mo + k2 * 2 + 1, none⟩, .slice (some ⟨pb, po, none⟩) pl pc), (⟨w.heap.size + 1, 0, none⟩, .string NM), (⟨w.heap.size + 1, 4, none⟩, .slice pra rpn prc), (⟨w.heap.size, 1, none⟩, .slice da dn dc), (⟨pb, po + k3, none⟩, .string PT)]) (by assumption) (by assumption) | exact AtF.al (w := wr) (l := [(⟨w.heap.size + 1, 5, none⟩, .slice (some ⟨fb', fo', none⟩) n fc'), (⟨fb', fo' + k1 * 7 + 1, none⟩, .int .i64 kd), (⟨mb, mo + k2 * 2, none⟩, .string N0), (⟨mb, mo + k2 * 2 + 1, none⟩, .slice (some ⟨pb, po, none⟩) pl pc), (⟨w.heap.size + 1, 0, none⟩, .string NM), (⟨w.heap.size + 1, 4, none⟩, .slice pra rpn prc), (⟨w.heap.size, 1, none⟩, .slice da dn dc), (⟨pb, po + k3, none⟩, .string PT)]) (by assumption) _ | exact AtF.ald (w := wr) (l := [(⟨w.heap.size + 1, 5, none⟩, .slice (some ⟨fb', fo', none⟩) n fc'), (⟨fb', fo' + k1 * 7 + 1, none⟩, .int .i64 kd), (⟨mb, mo + k2 * 2, none⟩, .string N0), (⟨mb, mo + k2 * 2 + 1, none⟩, .slice (some ⟨pb, po, none⟩) pl pc), (⟨w.heap.size + 1, 0, none⟩, .string NM), (⟨w.heap.size + 1, 4, none⟩, .slice pra rpn prc), (⟨w.heap.size, 1, none⟩, .slice da dn dc), (⟨pb, po + k3, none⟩, .string PT)]) (by assumption) _ | exact AtF.al (w := wr) (l := [(⟨w.heap.size + 1, 5, none⟩, .slice (some ⟨fb', fo', none⟩) n fc'), (⟨fb', fo' + k1 * 7 + 1, none⟩, .int .i64 kd), (⟨mb, mo + k2 * 2, none⟩, .string N0), (⟨mb, mo + k2 * 2 + 1, none⟩, .slice (some ⟨pb, po, none⟩) pl pc), (⟨w.heap.size + 1, 0, none⟩, .string NM), (⟨w.heap.size + 1, 4, none⟩, .slice pra rpn prc), (⟨w.heap.size, 1, none⟩, .slice da dn dc), (⟨pb, po + k3, none⟩, .string PT)]) hs _ | exact AtF.ald (w := wr) (l := [(⟨w.heap.size + 1, 5, none⟩, .slice (some ⟨fb', fo', none⟩) n fc'), (⟨fb', fo' + k1 * 7 + 1, none⟩, .int .i64 kd), (⟨mb, mo + k2 * 2, none⟩, .string N0), (⟨mb, mo + k2 * 2 + 1, none⟩, .slice (some ⟨pb, po, none⟩) pl pc), (⟨w.heap.size + 1, 0, none⟩, .string NM), (⟨w.heap.size + 1, 4, none⟩, .slice pra rpn prc), (⟨w.heap.size, 1, none⟩, .slice da dn dc), (⟨pb, po + k3, none⟩, .string PT)]) hs _)
                    clear hK K
                    try simp only [Act.put, List.setIfInBounds_toArray, List.set_cons_zero, List.set_cons_succ]
                    refine heldY 45 129 ?_ _ rfl rfl (by kernel_rfl) (by kernel_rfl) (by kernel_rfl) (fun _ _ _ h => h) rfl (by assumption) ?_ ?_
                    rotate_left
                    · (intro w hSw; (try dsimp only at hSw); go_simp; (try with_reducible rfl))
                    try simp only [List.setIfInBounds_toArray, List.set_cons_zero, List.set_cons_succ]
                    refine heldY 46 130 ?_ _ rfl rfl (by kernel_rfl) (by kernel_rfl) (by kernel_rfl) (fun _ _ _ h => h) rfl (by assumption) ?_ ?_
                    rotate_left
                    · (intro w hSw; (try dsimp only at hSw); go_simp; (try with_reducible rfl))
                    try simp only [List.setIfInBounds_toArray, List.set_cons_zero, List.set_cons_succ]
                    refine wpAnyH_done (by kernel_rfl) ?_ _
                    have HB6 := Lib.hid (HB.out.trans ((BE _ hHeld).mono HB.out.size))
                    clear hHeld hs
                    go_wp2
                    go_roundw
                    case rel => exact ⟨k3 + 1, by omega, by go_num, HB6⟩
                    case measure => simp [intOf]; omega
                  rw [decide_eq_false hrr] at HAx
                  clear hnn hrr HEP hkd hE
                  go_wp2
                  have BE := fun (V : World) (h : V.cell? ⟨w.heap.size + 1, 5, none⟩ = some (.slice (some ⟨fb', fo', none⟩) n fc') ∧ V.cell? ⟨fb', fo' + k1 * 7 + 1, none⟩ = some (.int .i64 kd) ∧ V.cell? ⟨mb, mo + k2 * 2, none⟩ = some (.string N0) ∧ V.cell? ⟨mb, mo + k2 * 2 + 1, none⟩ = some (.slice (some ⟨pb, po, none⟩) pl pc) ∧ V.cell? ⟨w.heap.size + 1, 0, none⟩ = some (.string NM) ∧ V.cell? ⟨w.heap.size + 1, 4, none⟩ = some (.slice pra rpn prc) ∧ V.cell? ⟨w.heap.size, 1, none⟩ = some (.slice da dn dc) ∧ V.cell? ⟨pb, po + k3, none⟩ = some (.string PT) ∧ Below wr.heap.size wr V) => AtF.be (w := wr) (l := [(⟨w.heap.size + 1, 5, none⟩, .slice (some ⟨fb', fo', none⟩) n fc'), (⟨fb', fo' + k1 * 7 + 1, none⟩, .int .i64 kd), (⟨mb, mo + k2 * 2, none⟩, .string N0), (⟨mb, mo + k2 * 2 + 1, none⟩, .slice (some ⟨pb, po, none⟩) pl pc), (⟨w.heap.size + 1, 0, none⟩, .string NM), (⟨w.heap.size + 1, 4, none⟩, .slice pra rpn prc), (⟨w.heap.size, 1, none⟩, .slice da dn dc), (⟨pb, po + k3, none⟩, .string PT)]) h
                  refine wp_region_held_drew (S := (fun V => V.cell? ⟨w.heap.size + 1, 5, none⟩ = some (.slice (some ⟨fb', fo', none⟩) n fc') ∧ V.cell? ⟨fb', fo' + k1 * 7 + 1, none⟩ = some (.int .i64 kd) ∧ V.cell? ⟨mb, mo + k2 * 2, none⟩ = some (.string N0) ∧ V.cell? ⟨mb, mo + k2 * 2 + 1, none⟩ = some (.slice (some ⟨pb, po, none⟩) pl pc) ∧ V.cell? ⟨w.heap.size + 1, 0, none⟩ = some (.string NM) ∧ V.cell? ⟨w.heap.size + 1, 4, none⟩ = some (.slice pra rpn prc) ∧ V.cell? ⟨w.heap.size, 1, none⟩ = some (.slice da dn dc) ∧ V.cell? ⟨pb, po + k3, none⟩ = some (.string PT) ∧ Below wr.heap.size wr V)) (by kernel_rfl) ?_ (fun hHeld => ?_)
                  · (try dsimp only); (first | assumption | exact hs | exact AtF.dr (w := wr) (l := [(⟨w.heap.size + 1, 5, none⟩, .slice (some ⟨fb', fo', none⟩) n fc'), (⟨fb', fo' + k1 * 7 + 1, none⟩, .int .i64 kd), (⟨mb, mo + k2 * 2, none⟩, .string N0), (⟨mb, mo + k2 * 2 + 1, none⟩, .slice (some ⟨pb, po, none⟩) pl pc), (⟨w.heap.size + 1, 0, none⟩, .string NM), (⟨w.heap.size + 1, 4, none⟩, .slice pra rpn prc), (⟨w.heap.size, 1, none⟩, .slice da dn dc), (⟨pb, po + k3, none⟩, .string PT)]) hs | exact AtF.dr (w := wr) (l := [(⟨w.heap.size + 1, 5, none⟩, .slice (some ⟨fb', fo', none⟩) n fc'), (⟨fb', fo' + k1 * 7 + 1, none⟩, .int .i64 kd), (⟨mb, mo + k2 * 2, none⟩, .string N0), (⟨mb, mo + k2 * 2 + 1, none⟩, .slice (some ⟨pb, po, none⟩) pl pc), (⟨w.heap.size + 1, 0, none⟩, .string NM), (⟨w.heap.size + 1, 4, none⟩, .slice pra rpn prc), (⟨w.heap.size, 1, none⟩, .slice da dn dc), (⟨pb, po + k3, none⟩, .string PT)]) (by assumption) | exact AtF.on (w := wr) (l := [(⟨w.heap.size + 1, 5, none⟩, .slice (some ⟨fb', fo', none⟩) n fc'), (⟨fb', fo' + k1 * 7 + 1, none⟩, .int .i64 kd), (⟨mb, mo + k2 * 2, none⟩, .string N0), (⟨mb, mo + k2 * 2 + 1, none⟩, .slice (some ⟨pb, po, none⟩) pl pc), (⟨w.heap.size + 1, 0, none⟩, .string NM), (⟨w.heap.size + 1, 4, none⟩, .slice pra rpn prc), (⟨w.heap.size, 1, none⟩, .slice da dn dc), (⟨pb, po + k3, none⟩, .string PT)]) (by assumption) (by assumption) | exact AtF.al (w := wr) (l := [(⟨w.heap.size + 1, 5, none⟩, .slice (some ⟨fb', fo', none⟩) n fc'), (⟨fb', fo' + k1 * 7 + 1, none⟩, .int .i64 kd), (⟨mb, mo + k2 * 2, none⟩, .string N0), (⟨mb, mo + k2 * 2 + 1, none⟩, .slice (some ⟨pb, po, none⟩) pl pc), (⟨w.heap.size + 1, 0, none⟩, .string NM), (⟨w.heap.size + 1, 4, none⟩, .slice pra rpn prc), (⟨w.heap.size, 1, none⟩, .slice da dn dc), (⟨pb, po + k3, none⟩, .string PT)]) (by assumption) _ | exact AtF.ald (w := wr) (l := [(⟨w.heap.size + 1, 5, none⟩, .slice (some ⟨fb', fo', none⟩) n fc'), (⟨fb', fo' + k1 * 7 + 1, none⟩, .int .i64 kd), (⟨mb, mo + k2 * 2, none⟩, .string N0), (⟨mb, mo + k2 * 2 + 1, none⟩, .slice (some ⟨pb, po, none⟩) pl pc), (⟨w.heap.size + 1, 0, none⟩, .string NM), (⟨w.heap.size + 1, 4, none⟩, .slice pra rpn prc), (⟨w.heap.size, 1, none⟩, .slice da dn dc), (⟨pb, po + k3, none⟩, .string PT)]) (by assumption) _ | exact AtF.al (w := wr) (l := [(⟨w.heap.size + 1, 5, none⟩, .slice (some ⟨fb', fo', none⟩) n fc'), (⟨fb', fo' + k1 * 7 + 1, none⟩, .int .i64 kd), (⟨mb, mo + k2 * 2, none⟩, .string N0), (⟨mb, mo + k2 * 2 + 1, none⟩, .slice (some ⟨pb, po, none⟩) pl pc), (⟨w.heap.size + 1, 0, none⟩, .string NM), (⟨w.heap.size + 1, 4, none⟩, .slice pra rpn prc), (⟨w.heap.size, 1, none⟩, .slice da dn dc), (⟨pb, po + k3, none⟩, .string PT)]) hs _ | exact AtF.ald (w := wr) (l := [(⟨w.heap.size + 1, 5, none⟩, .slice (some ⟨fb', fo', none⟩) n fc'), (⟨fb', fo' + k1 * 7 + 1, none⟩, .int .i64 kd), (⟨mb, mo + k2 * 2, none⟩, .string N0), (⟨mb, mo + k2 * 2 + 1, none⟩, .slice (some ⟨pb, po, none⟩) pl pc), (⟨w.heap.size + 1, 0, none⟩, .string NM), (⟨w.heap.size + 1, 4, none⟩, .slice pra rpn prc), (⟨w.heap.size, 1, none⟩, .slice da dn dc), (⟨pb, po + k3, none⟩, .string PT)]) hs _)
                  refine heldY 0 84 ?_ _ rfl rfl (by kernel_rfl) (by kernel_rfl) (by kernel_rfl) (fun _ _ _ h => h) rfl (by assumption) ?_ ?_
                  rotate_left
                  · (intro w hSw; (try dsimp only at hSw); go_simp; (try with_reducible rfl))
                  try simp only [List.setIfInBounds_toArray, List.set_cons_zero, List.set_cons_succ]
                  refine heldY 1 85 ?_ _ rfl rfl (by kernel_rfl) (by kernel_rfl) (by kernel_rfl) (fun _ _ _ h => h) rfl (by assumption) ?_ ?_
                  rotate_left
                  · (intro w hSw; (try dsimp only at hSw); go_simp; (try with_reducible rfl))
                  try simp only [List.setIfInBounds_toArray, List.set_cons_zero, List.set_cons_succ]
                  refine heldY 2 86 ?_ _ rfl rfl (by kernel_rfl) (by kernel_rfl) (by kernel_rfl) (fun _ _ _ h => h) rfl (by assumption) ?_ ?_
                  rotate_left
                  · (intro w hSw; (try dsimp only at hSw); go_simp; (try with_reducible rfl))
                  try simp only [List.setIfInBounds_toArray, List.set_cons_zero, List.set_cons_succ]
                  refine heldY 3 87 ?_ _ rfl rfl (by kernel_rfl) (by kernel_rfl) (by kernel_rfl) (fun _ _ _ h => h) rfl (by assumption) ?_ ?_
                  rotate_left
                  · (intro w hSw; (try dsimp only at hSw); go_simp; (try with_reducible rfl))
                  try simp only [List.setIfInBounds_toArray, List.set_cons_zero, List.set_cons_succ]
                  refine heldY 4 88 ?_ _ rfl rfl (by kernel_rfl) (by kernel_rfl) (by kernel_rfl) (fun _ _ _ h => h) rfl (by assumption) ?_ ?_
                  rotate_left
                  · (intro w hSw; (try dsimp only at hSw); go_simp; (try with_reducible rfl))
                  try simp only [List.setIfInBounds_toArray, List.set_cons_zero, List.set_cons_succ]
                  refine heldY 5 89 ?_ _ rfl rfl (by kernel_rfl) (by kernel_rfl) (by kernel_rfl) (fun _ _ _ h => h) rfl (by assumption) ?_ ?_
                  rotate_left
                  · (intro w hSw; (try dsimp only at hSw); go_simp; (try with_reducible rfl))
                  try simp only [List.setIfInBounds_toArray, List.set_cons_zero, List.set_cons_succ]
                  refine heldY 6 90 ?_ _ rfl rfl (by kernel_rfl) (by kernel_rfl) (by kernel_rfl) (fun _ _ _ h => h) rfl (by assumption) ?_ ?_
                  rotate_left
                  · (intro w hSw; (try dsimp only at hSw); go_simp; (try with_reducible rfl))
                  try simp only [List.setIfInBounds_toArray, List.set_cons_zero, List.set_cons_succ]
                  refine heldY 7 91 ?_ _ rfl rfl (by kernel_rfl) (by kernel_rfl) (by kernel_rfl) (fun _ _ _ h => h) rfl (by assumption) ?_ ?_
                  rotate_left
                  · (intro w hSw; (try dsimp only at hSw); go_simp; (try with_reducible rfl))
                  try simp only [List.setIfInBounds_toArray, List.set_cons_zero, List.set_cons_succ]
                  refine heldY 8 92 ?_ _ rfl rfl (by kernel_rfl) (by kernel_rfl) (by kernel_rfl) (fun _ _ _ h => h) rfl (by assumption) ?_ ?_
                  rotate_left
                  · (intro w hSw; (try dsimp only at hSw); go_simp; (try with_reducible rfl))
                  try simp only [List.setIfInBounds_toArray, List.set_cons_zero, List.set_cons_succ]
                  refine heldY 9 93 ?_ _ rfl rfl (by kernel_rfl) (by kernel_rfl) (by kernel_rfl) (fun _ _ _ h => h) rfl (by assumption) ?_ ?_
                  rotate_left
                  · (intro w hSw; (try dsimp only at hSw); go_simp; (try with_reducible rfl))
                  try simp only [List.setIfInBounds_toArray, List.set_cons_zero, List.set_cons_succ]
                  refine heldY 10 94 ?_ _ rfl rfl (by kernel_rfl) (by kernel_rfl) (by kernel_rfl) (fun _ _ _ h => h) rfl (by assumption) ?_ ?_
                  rotate_left
                  · (intro w hSw; (try dsimp only at hSw); go_simp; (try with_reducible rfl))
                  try simp only [List.setIfInBounds_toArray, List.set_cons_zero, List.set_cons_succ]
                  refine heldY 11 95 ?_ _ rfl rfl (by kernel_rfl) (by kernel_rfl) (by kernel_rfl) (fun _ _ _ h => h) rfl (by assumption) ?_ ?_
                  rotate_left
                  · (intro w hSw; (try dsimp only at hSw); go_simp; (try with_reducible rfl))
                  try simp only [List.setIfInBounds_toArray, List.set_cons_zero, List.set_cons_succ]
                  refine heldY 12 96 ?_ _ rfl rfl (by kernel_rfl) (by kernel_rfl) (by kernel_rfl) (fun _ _ _ h => h) rfl (by assumption) ?_ ?_
                  rotate_left
                  · (intro w hSw; (try dsimp only at hSw); go_simp; (try with_reducible rfl))
                  try simp only [List.setIfInBounds_toArray, List.set_cons_zero, List.set_cons_succ]
                  refine heldY 13 97 ?_ _ rfl rfl (by kernel_rfl) (by kernel_rfl) (by kernel_rfl) (fun _ _ _ h => h) rfl (by assumption) ?_ ?_
                  rotate_left
                  · (intro w hSw; (try dsimp only at hSw); go_simp; (try with_reducible rfl))
                  try simp only [List.setIfInBounds_toArray, List.set_cons_zero, List.set_cons_succ]
                  refine heldY 14 98 ?_ _ rfl rfl (by kernel_rfl) (by kernel_rfl) (by kernel_rfl) (fun _ _ _ h => h) rfl (by assumption) ?_ ?_
                  rotate_left
                  · (intro w hSw; (try dsimp only at hSw); go_simp; (try with_reducible rfl))
                  try simp only [List.setIfInBounds_toArray, List.set_cons_zero, List.set_cons_succ]
                  refine heldY 15 99 ?_ _ rfl rfl (by kernel_rfl) (by kernel_rfl) (by kernel_rfl) (fun _ _ _ h => h) rfl (by assumption) ?_ ?_
                  rotate_left
                  · (intro w hSw; (try dsimp only at hSw); go_simp; (try with_reducible rfl))
                  try simp only [List.setIfInBounds_toArray, List.set_cons_zero, List.set_cons_succ]
                  refine heldY 16 100 ?_ _ rfl rfl (by kernel_rfl) (by kernel_rfl) (by kernel_rfl) (fun _ _ _ h => h) rfl (by assumption) ?_ ?_
                  rotate_left
                  · (intro w hSw; (try dsimp only at hSw); go_simp; (try with_reducible rfl))
                  try simp only [List.setIfInBounds_toArray, List.set_cons_zero, List.set_cons_succ]
                  refine heldY 17 101 ?_ _ rfl rfl (by kernel_rfl) (by kernel_rfl) (by kernel_rfl) (fun _ _ _ h => h) rfl (by assumption) ?_ ?_
                  rotate_left
                  · (intro w hSw; (try dsimp only at hSw); go_simp; (try with_reducible rfl))
                  try simp only [List.setIfInBounds_toArray, List.set_cons_zero, List.set_cons_succ]
                  refine heldY 18 102 ?_ _ rfl rfl (by kernel_rfl) (by kernel_rfl) (by kernel_rfl) (fun _ _ _ h => h) rfl (by assumption) ?_ ?_
                  rotate_left
                  · (intro w hSw; (try dsimp only at hSw); go_simp; (try with_reducible rfl))
                  try simp only [List.setIfInBounds_toArray, List.set_cons_zero, List.set_cons_succ]
                  refine heldY 19 103 ?_ _ rfl rfl (by kernel_rfl) (by kernel_rfl) (by kernel_rfl) (fun _ _ _ h => h) rfl (by assumption) ?_ ?_
                  rotate_left
                  · (intro w hSw; (try dsimp only at hSw); go_simp; (try with_reducible rfl))
                  try simp only [List.setIfInBounds_toArray, List.set_cons_zero, List.set_cons_succ]
                  refine heldY 20 104 ?_ _ rfl rfl (by kernel_rfl) (by kernel_rfl) (by kernel_rfl) (fun _ _ _ h => h) rfl (by assumption) ?_ ?_
                  rotate_left
                  · (intro w hSw; (try dsimp only at hSw); go_simp; (try with_reducible rfl))
                  try simp only [List.setIfInBounds_toArray, List.set_cons_zero, List.set_cons_succ]
                  refine heldY 21 105 ?_ _ rfl rfl (by kernel_rfl) (by kernel_rfl) (by kernel_rfl) (fun _ _ _ h => h) rfl (by assumption) ?_ ?_
                  rotate_left
                  · (intro w hSw; (try dsimp only at hSw); go_simp; (try with_reducible rfl))
                  try simp only [List.setIfInBounds_toArray, List.set_cons_zero, List.set_cons_succ]
                  refine heldY 22 106 ?_ _ rfl rfl (by kernel_rfl) (by kernel_rfl) (by kernel_rfl) (fun _ _ _ h => h) rfl (by assumption) ?_ ?_
                  rotate_left
                  · (intro w hSw; (try dsimp only at hSw); go_simp; (try with_reducible rfl))
                  try simp only [List.setIfInBounds_toArray, List.set_cons_zero, List.set_cons_succ]
                  refine heldY 23 107 ?_ _ rfl rfl (by kernel_rfl) (by kernel_rfl) (by kernel_rfl) (fun _ _ _ h => h) rfl (by assumption) ?_ ?_
                  rotate_left
                  · (intro w hSw; (try dsimp only at hSw); go_simp; (try with_reducible rfl))
                  try simp only [List.setIfInBounds_toArray, List.set_cons_zero, List.set_cons_succ]
                  refine heldY 24 108 ?_ _ rfl rfl (by kernel_rfl) (by kernel_rfl) (by kernel_rfl) (fun _ _ _ h => h) rfl (by assumption) ?_ ?_
                  rotate_left
                  · (intro w hSw; (try dsimp only at hSw); go_simp; (try with_reducible rfl))
                  try simp only [List.setIfInBounds_toArray, List.set_cons_zero, List.set_cons_succ]
                  refine wpAnyH_ready (rs := [25]) (by kernel_rfl) (by simp) ?_
                  refine AllReadyH.cons rfl (fun K hK => ?_) AllReadyH.nil
                  go_simp
                  first | (go_at_call 31; (with_reducible refine (HAx.out _ (BE _ (by assumption))).mono ?_); rintro e w3 ⟨rfl, hb⟩) | (go_at_call 30; (with_reducible refine (TPx.out _ (BE _ (by assumption))).mono ?_); rintro e w3 ⟨rfl, hb⟩)
                  refine hK.out _ _ ?_ (fun hHeld => ?_)
                  · (try dsimp only); (first | assumption | exact hs | exact AtF.dr (w := wr) (l := [(⟨w.heap.size + 1, 5, none⟩, .slice (some ⟨fb', fo', none⟩) n fc'), (⟨fb', fo' + k1 * 7 + 1, none⟩, .int .i64 kd), (⟨mb, mo + k2 * 2, none⟩, .string N0), (⟨mb, mo + k2 * 2 + 1, none⟩, .slice (some ⟨pb, po, none⟩) pl pc), (⟨w.heap.size + 1, 0, none⟩, .string NM), (⟨w.heap.size + 1, 4, none⟩, .slice pra rpn prc), (⟨w.heap.size, 1, none⟩, .slice da dn dc), (⟨pb, po + k3, none⟩, .string PT)]) hs | exact AtF.dr (w := wr) (l := [(⟨w.heap.size + 1, 5, none⟩, .slice (some ⟨fb', fo', none⟩) n fc'), (⟨fb', fo' + k1 * 7 + 1, none⟩, .int .i64 kd), (⟨mb, mo + k2 * 2, none⟩, .string N0), (⟨mb, mo + k2 * 2 + 1, none⟩, .slice (some ⟨pb, po, none⟩) pl pc), (⟨w.heap.size + 1, 0, none⟩, .string NM), (⟨w.heap.size + 1, 4, none⟩, .slice pra rpn prc), (⟨w.heap.size, 1, none⟩, .slice da dn dc), (⟨pb, po + k3, none⟩, .string PT)]) (by assumption) | exact AtF.on (w := wr) (l := [(⟨w.heap.size + 1, 5, none⟩, .slice (some ⟨fb', fo', none⟩) n fc'), (⟨fb', fo' + k1 * 7 + 1, none⟩, .int .i64 kd), (⟨mb, mo + k2 * 2, none⟩, .string N0), (⟨mb, mo + k2 * 2 + 1, none⟩, .slice (some ⟨pb, po, none⟩) pl pc), (⟨w.heap.size + 1, 0, none⟩, .string NM), (⟨w.heap.size + 1, 4, none⟩, .slice pra rpn prc), (⟨w.heap.size, 1, none⟩, .slice da dn dc), (⟨pb, po + k3, none⟩, .string PT)]) (by assumption) (by assumption) | exact AtF.al (w := wr) (l := [(⟨w.heap.size + 1, 5, none⟩, .slice (some ⟨fb', fo', none⟩) n fc'), (⟨fb', fo' + k1 * 7 + 1, none⟩, .int .i64 kd), (⟨mb, mo + k2 * 2, none⟩, .string N0), (⟨mb, mo + k2 * 2 + 1, none⟩, .slice (some ⟨pb, po, none⟩) pl pc), (⟨w.heap.size + 1, 0, none⟩, .string NM), (⟨w.heap.size + 1, 4, none⟩, .slice pra rpn prc), (⟨w.heap.size, 1, none⟩, .slice da dn dc), (⟨pb, po + k3, none⟩, .string PT)]) (by assumption) _ | exact AtF.ald (w := wr) (l := [(⟨w.heap.size + 1, 5, none⟩, .slice (some ⟨fb', fo', none⟩) n fc'), (⟨fb', fo' + k1 * 7 + 1, none⟩, .int .i64 kd), (⟨mb, mo + k2 * 2, none⟩, .string N0), (⟨mb, mo + k2 * 2 + 1, none⟩, .slice (some ⟨pb, po, none⟩) pl pc), (⟨w.heap.size + 1, 0, none⟩, .string NM), (⟨w.heap.size + 1, 4, none⟩, .slice pra rpn prc), (⟨w.heap.size, 1, none⟩, .slice da dn dc), (⟨pb, po + k3, none⟩, .string PT)]) (by assumption) _ | exact AtF.al (w := wr) (l := [(⟨w.heap.size + 1, 5, none⟩, .slice (some ⟨fb', fo', none⟩) n fc'), (⟨fb', fo' + k1 * 7 + 1, none⟩, .int .i64 kd), (⟨mb, mo + k2 * 2, none⟩, .string N0), (⟨mb, mo + k2 * 2 + 1, none⟩, .slice (some ⟨pb, po, none⟩) pl pc), (⟨w.heap.size + 1, 0, none⟩, .string NM), (⟨w.heap.size + 1, 4, none⟩, .slice pra rpn prc), (⟨w.heap.size, 1, none⟩, .slice da dn dc), (⟨pb, po + k3, none⟩, .string PT)]) hs _ | exact AtF.ald (w := wr) (l := [(⟨w.heap.size + 1, 5, none⟩, .slice (some ⟨fb', fo', none⟩) n fc'), (⟨fb', fo' + k1 * 7 + 1, none⟩, .int .i64 kd), (⟨mb, mo + k2 * 2, none⟩, .string N0), (⟨mb, mo + k2 * 2 + 1, none⟩, .slice (some ⟨pb, po, none⟩) pl pc), (⟨w.heap.size + 1, 0, none⟩, .string NM), (⟨w.heap.size + 1, 4, none⟩, .slice pra rpn prc), (⟨w.heap.size, 1, none⟩, .slice da dn dc), (⟨pb, po + k3, none⟩, .string PT)]) hs _)
                  clear hK K
                  try simp only [Act.put, List.setIfInBounds_toArray, List.set_cons_zero, List.set_cons_succ]
                  refine heldY 26 110 ?_ _ rfl rfl (by kernel_rfl) (by kernel_rfl) (by kernel_rfl) (fun _ _ _ h => h) rfl (by assumption) ?_ ?_
                  rotate_left
                  · (intro w hSw; (try dsimp only at hSw); go_simp; (try with_reducible rfl))
                  try simp only [List.setIfInBounds_toArray, List.set_cons_zero, List.set_cons_succ]
                  refine heldY 27 111 ?_ _ rfl rfl (by kernel_rfl) (by kernel_rfl) (by kernel_rfl) (fun _ _ _ h => h) rfl (by assumption) ?_ ?_
                  rotate_left
                  · (intro w hSw; (try dsimp only at hSw); go_simp; (try with_reducible rfl))
                  try simp only [List.setIfInBounds_toArray, List.set_cons_zero, List.set_cons_succ]
                  refine heldNo 28 112 rfl (by kernel_rfl) (by kernel_rfl) (by kernel_rfl) (fun _ _ _ h => h) rfl (by assumption) ?_
                  try simp only [List.setIfInBounds_toArray, List.set_cons_zero, List.set_cons_succ]
                  refine heldNo 29 113 rfl (by kernel_rfl) (by kernel_rfl) (by kernel_rfl) (fun _ _ _ h => h) rfl (by assumption) ?_
                  try simp only [List.setIfInBounds_toArray, List.set_cons_zero, List.set_cons_succ]
                  refine heldNo 30 114 rfl (by kernel_rfl) (by kernel_rfl) (by kernel_rfl) (fun _ _ _ h => h) rfl (by assumption) ?_
                  try simp only [List.setIfInBounds_toArray, List.set_cons_zero, List.set_cons_succ]
                  refine heldNo 31 115 rfl (by kernel_rfl) (by kernel_rfl) (by kernel_rfl) (fun _ _ _ h => h) rfl (by assumption) ?_
                  try simp only [List.setIfInBounds_toArray, List.set_cons_zero, List.set_cons_succ]
                  refine heldNo 32 116 rfl (by kernel_rfl) (by kernel_rfl) (by kernel_rfl) (fun _ _ _ h => h) rfl (by assumption) ?_
                  try simp only [List.setIfInBounds_toArray, List.set_cons_zero, List.set_cons_succ]
                  refine heldNo 33 117 rfl (by kernel_rfl) (by kernel_rfl) (by kernel_rfl) (fun _ _ _ h => h) rfl (by assumption) ?_
                  try simp only [List.setIfInBounds_toArray, List.set_cons_zero, List.set_cons_succ]
                  refine heldNo 34 118 rfl (by kernel_rfl) (by kernel_rfl) (by kernel_rfl) (fun _ _ _ h => h) rfl (by assumption) ?_
                  try simp only [List.setIfInBounds_toArray, List.set_cons_zero, List.set_cons_succ]
                  refine heldNo 35 119 rfl (by kernel_rfl) (by kernel_rfl) (by kernel_rfl) (fun _ _ _ h => h) rfl (by assumption) ?_
                  try simp only [List.setIfInBounds_toArray, List.set_cons_zero, List.set_cons_succ]
                  refine heldNo 36 120 rfl (by kernel_rfl) (by kernel_rfl) (by kernel_rfl) (fun _ _ _ h => h) rfl (by assumption) ?_
                  try simp only [List.setIfInBounds_toArray, List.set_cons_zero, List.set_cons_succ]
                  refine heldNo 37 121 rfl (by kernel_rfl) (by kernel_rfl) (by kernel_rfl) (fun _ _ _ h => h) rfl (by assumption) ?_
                  try simp only [List.setIfInBounds_toArray, List.set_cons_zero, List.set_cons_succ]
                  refine heldNo 38 122 rfl (by kernel_rfl) (by kernel_rfl) (by kernel_rfl) (fun _ _ _ h => h) rfl (by assumption) ?_
                  try simp only [List.setIfInBounds_toArray, List.set_cons_zero, List.set_cons_succ]
                  refine heldNo 39 123 rfl (by kernel_rfl) (by kernel_rfl) (by kernel_rfl) (fun _ _ _ h => h) rfl (by assumption) ?_
                  try simp only [List.setIfInBounds_toArray, List.set_cons_zero, List.set_cons_succ]
                  refine heldNo 40 124 rfl (by kernel_rfl) (by kernel_rfl) (by kernel_rfl) (fun _ _ _ h => h) rfl (by assumption) ?_
                  try simp only [List.setIfInBounds_toArray, List.set_cons_zero, List.set_cons_succ]
                  refine heldNo 41 125 rfl (by kernel_rfl) (by kernel_rfl) (by kernel_rfl) (fun _ _ _ h => h) rfl (by assumption) ?_
                  try simp only [List.setIfInBounds_toArray, List.set_cons_zero, List.set_cons_succ]
                  refine heldNo 42 126 rfl (by kernel_rfl) (by kernel_rfl) (by kernel_rfl) (fun _ _ _ h => h) rfl (by assumption) ?_
                  try simp only [List.setIfInBounds_toArray, List.set_cons_zero, List.set_cons_succ]
                  refine heldNo 43 127 rfl (by kernel_rfl) (by kernel_rfl) (by kernel_rfl) (fun _ _ _ h => h) rfl (by assumption) ?_
                  try simp only [List.setIfInBounds_toArray, List.set_cons_zero, List.set_cons_succ]
                  refine heldNo 44 128 rfl (by kernel_rfl) (by kernel_rfl) (by kernel_rfl) (fun _ _ _ h => h) rfl (by assumption) ?_
                  try simp only [List.setIfInBounds_toArray, List.set_cons_zero, List.set_cons_succ]
                  refine heldNo 45 129 rfl (by kernel_rfl) (by kernel_rfl) (by kernel_rfl) (fun _ _ _ h => h) rfl (by assumption) ?_
                  try simp only [List.setIfInBounds_toArray, List.set_cons_zero, List.set_cons_succ]
                  refine heldY 46 130 ?_ _ rfl rfl (by kernel_rfl) (by kernel_rfl) (by kernel_rfl) (fun _ _ _ h => h) rfl (by assumption) ?_ ?_
                  rotate_left
                  · (intro w hSw; (try dsimp only at hSw); go_simp; (try with_reducible rfl))
                  try simp only [List.setIfInBounds_toArray, List.set_cons_zero, List.set_cons_succ]
                  refine wpAnyH_done (by kernel_rfl) ?_ _
                  have HB6 := Lib.hid (HB.out.trans ((BE _ hHeld).mono HB.out.size))
                  clear hHeld hs
                  go_wp2
                  go_roundw
                  case rel => exact ⟨k3 + 1, by omega, by go_num, HB6⟩
                  case measure => simp [intOf]; omega
                · have hp3 : k3 = pl := by omega
                  subst hp3
                  clear hlt3
                  go_wp2
                  go_roundw
                  case rel => exact ⟨k2 + 1, by omega, by go_num, HB⟩
                  case measure => simp [intOf]; omega
            · have hk2m : k2 = ML := by omega
              subst hk2m
              clear hlt2
              go_wp2
              go_roundw
              case rel => exact ⟨k1 + 1, by omega, by go_num, HB⟩
              case measure => simp [intOf]; omega
        · have hkn : k1 = n := by omega
          subst hkn
          have AWx := AWK.out _ (B2L.out _ HB.out)
          have HBF := Lib.hid (HB2.out.trans ((B2L.out _ HB.out).mono HB2.out.size))
          clear hlt
          go_wp2_with (go_at_call 9; (with_reducible refine AWx.mono ?_); rintro e w6 ⟨rfl, hb⟩; have HBG := Lib.hid (HBF.out.trans (hb.mono HBF.out.size)); clear hb)
          go_ret
          exact ⟨rfl, HBG.out⟩
end Go.Proofs.YtkcamfcjkjiijaaGreatDoor
