/-
  What check.Lost returns of lists, and what is left of them behind it; nothing of the program.
-/
import Derived.Test.YtkcamfcjkjiijaaGreatDoorPEcOwnM
import Derived.Test.YtkcamfcjkjiijaaGreatDoorPEpHold
import Derived.Test.YtkcamfcjkjiijaaGreatDoorPTLose2
namespace Go.Proofs.YtkcamfcjkjiijaaGreatDoor
open Go.RowKit Go.Shelf
def notDir (f : Fv) : Bool := decide (f.kd ≠ 1)
def placesL (ds : List Dv) (nm : Bs) (fl : List Fv) : List Bs := (fl.filter notDir).map fun f => toD ds f.pt nm
theorem places_take {ds : List Dv} {nm : Bs} {fl : List Fv} {k : Nat} {f : Fv} (h : fl[k]? = some f) : placesL ds nm (fl.take (k + 1)) = placesL ds nm (fl.take k) ++ (if notDir f = true then [toD ds f.pt nm] else []) := by
  unfold placesL
  rw [List.take_add_one, h, List.filter_append, List.map_append]
  congr 1
  by_cases g : notDir f = true <;> simp [g]
theorem places_len (ds : List Dv) (nm : Bs) (fl : List Fv) : (placesL ds nm fl).length ≤ fl.length := by
  unfold placesL; rw [List.length_map]; exact List.length_filter_le _ _
theorem HoldFv.parts {w : World} {v : Value} {l : List Fv} (h : HoldFv w v l) : ∃ (a : Option Addr) (c b o : Nat), v = .slice a l.length c ∧ l.length ≤ c ∧ (0 < l.length → a = some ⟨b, o, none⟩ ∧ b < w.heap.size) ∧
    ∀ (j : Nat) x, l[j]? = some x → w.cell? ⟨b, o + j * 7, none⟩ = some (.string (⟨x.pt.toArray⟩ : ByteArray)) ∧ w.cell? ⟨b, o + j * 7 + 1, none⟩ = some (.int .i64 x.kd) ∧ w.cell? ⟨b, o + j * 7 + 2, none⟩ = some (.int .i64 x.mm) ∧ w.cell? ⟨b, o + j * 7 + 3, none⟩ = some (.int .i64 x.uu) ∧ w.cell? ⟨b, o + j * 7 + 4, none⟩ = some (.int .i64 x.gg) ∧ w.cell? ⟨b, o + j * 7 + 5, none⟩ = some (.string (⟨x.tx.toArray⟩ : ByteArray)) ∧ w.cell? ⟨b, o + j * 7 + 6, none⟩ = some (.bool x.cf) := by
  obtain ⟨a, c, b, o, e, hc, ha, hcell⟩ := h
  rw [List.length_map] at e hc ha
  refine ⟨a, c, b, o, e, hc, ha, fun j x hx => ?_⟩
  have := hcell j (cellsFv x) (by rw [List.getElem?_map, hx]; rfl)
  exact ⟨this 0 _ (by omega) rfl, this 1 _ (by omega) rfl, this 2 _ (by omega) rfl, this 3 _ (by omega) rfl, this 4 _ (by omega) rfl, this 5 _ (by omega) rfl, this 6 _ (by omega) rfl⟩
theorem boxV11 (W : World) (c0 c1 c2 c3 c4 c5 c6 c7 c8 c9 c10 : Value) (t : TypeId) (i : Nat) (v : Value) (h : (#[c0, c1, c2, c3, c4, c5, c6, c7, c8, c9, c10] : Array Value)[i]? = some v) : (W.alloc (.cells #[c0, c1, c2, c3, c4, c5, c6, c7, c8, c9, c10] t)).cell? ⟨W.heap.size, i, none⟩ = some v := by
  rw [World.cell?_alloc_new]; exact h
set_option maxRecDepth 100000 in
set_option maxHeartbeats 8000000 in
theorem places_any (x : Stv) (hd : x.ds.length ≤ 90000) (y : Pv) (hn : y.fl.length ≤ 90000) (w : World) (hx : InSt w x) (hy : InP w y) :
    Calls Tryz.prog 52 #[agS x, agP y] w fun e w' => ∃ r, e = .returned r ∧ OwnT w' w.heap.size r (placesL x.ds y.nm y.fl) ∧ Below w.heap.size w w' := by
  obtain ⟨i0, hi, hz0, hz1, hz2'⟩ := info_parts infoT
  have b1 := (Below.refl w.heap.size w).alloc (Nat.le_refl _) (.cells #[x.rv, x.dv, x.ov, x.av, x.iv, x.fv, x.lv] 30)
  have b2 := b1.alloc b1.size (.cells #[.string (⟨y.nm.toArray⟩ : ByteArray), .string (⟨y.vr.toArray⟩ : ByteArray), y.dv, y.cv, y.rv, y.fv, y.iv, y.v0, y.v1, y.v2, y.v3] 38)
  have hB : (w.alloc (.cells #[x.rv, x.dv, x.ov, x.av, x.iv, x.fv, x.lv] 30)).cell? ⟨w.heap.size, 1, none⟩ = some x.dv := boxV7 w x.rv x.dv x.ov x.av x.iv x.fv x.lv 30 1 _ rfl
  have bx := fun i v h => boxV11 (w.alloc (.cells #[x.rv, x.dv, x.ov, x.av, x.iv, x.fv, x.lv] 30)) (.string (⟨y.nm.toArray⟩ : ByteArray)) (.string (⟨y.vr.toArray⟩ : ByteArray)) y.dv y.cv y.rv y.fv y.iv y.v0 y.v1 y.v2 y.v3 38 i v h
  have n0 := bx 0 _ rfl
  have n1 := bx 5 _ rfl
  clear bx
  have hB2 := (((Below.refl _ (w.alloc (.cells #[x.rv, x.dv, x.ov, x.av, x.iv, x.fv, x.lv] 30))).alloc (Nat.le_refl _) (.cells #[.string (⟨y.nm.toArray⟩ : ByteArray), .string (⟨y.vr.toArray⟩ : ByteArray), y.dv, y.cv, y.rv, y.fv, y.iv, y.v0, y.v1, y.v2, y.v3] 38)).cell (p := ⟨w.heap.size, 1, none⟩) (by simp)).trans hB
  obtain ⟨w2, hw2⟩ : ∃ w2, (w.alloc (.cells #[x.rv, x.dv, x.ov, x.av, x.iv, x.fv, x.lv] 30)).alloc (.cells #[.string (⟨y.nm.toArray⟩ : ByteArray), .string (⟨y.vr.toArray⟩ : ByteArray), y.dv, y.cv, y.rv, y.fv, y.iv, y.v0, y.v1, y.v2, y.v3] 38) = w2 := ⟨_, rfl⟩
  have hz2 : w2.heap.size = w.heap.size + 2 := by rw [← hw2]; simp
  rw [hw2] at b2 n0 n1 hB2
  simp only [World.size_alloc] at n0 n1
  have HCEL : Hid (∀ W, Below w2.heap.size w2 W → W.cell? ⟨w.heap.size, 1, none⟩ = some x.dv ∧ W.cell? ⟨w.heap.size + 1, 0, none⟩ = some (.string (⟨y.nm.toArray⟩ : ByteArray)) ∧ W.cell? ⟨w.heap.size + 1, 5, none⟩ = some y.fv) := Lib.hid (fun W hb => ⟨(hb.cell (p := ⟨w.heap.size, 1, none⟩) (show w.heap.size < w2.heap.size by omega)).trans hB2, (hb.cell (p := ⟨w.heap.size + 1, 0, none⟩) (show w.heap.size + 1 < w2.heap.size by omega)).trans n0, (hb.cell (p := ⟨w.heap.size + 1, 5, none⟩) (show w.heap.size + 1 < w2.heap.size by omega)).trans n1⟩)
  have TR : Hid (∀ W (q : ByteArray), Below w2.heap.size w2 W → Calls Tryz.prog 30 #[x.dv, .string q, .string (⟨y.nm.toArray⟩ : ByteArray)] W fun e w' => e = .returned (.string (bsA (toD x.ds q.data.toList y.nm))) ∧ Below W.heap.size W w') := Lib.hid (fun W q hb => by
    have := true_any x.dv x.ds hd q (⟨y.nm.toArray⟩ : ByteArray) W (hx.on (b2.trans (hb.mono b2.size))).ds
    rw [show (⟨y.nm.toArray⟩ : ByteArray).data.toList = y.nm from by simp] at this
    exact this)
  obtain ⟨a, c, b, o, hfv', hc, ha, hcell⟩ := (hy.on b2).fl.parts
  have HC := Lib.hid hcell
  obtain ⟨⟨⟨ra, rc, -, -, hrv, -⟩, -⟩, ⟨oa, on, oc, hov⟩, ⟨aa, an, ac, hav⟩, ⟨ia, im, ic, hiv⟩, ⟨fa, fn, fc, hfv⟩, ⟨da, dn, dc, hdv⟩, ⟨la, ln, lc, hlv⟩⟩ := inS7_of hx
  obtain ⟨⟨pda, pdc, _, _, pdv, -⟩, -⟩ := hy.dp
  obtain ⟨pca, pcc, _, _, pcv, -⟩ := hy.cn
  obtain ⟨pra, prc, _, _, prv, -⟩ := hy.rp
  obtain ⟨pia, pic, _, _, piv, -⟩ := hy.it
  obtain ⟨⟨pa0, pc0, _, _, pv0, -⟩, -⟩ := hy.s0
  obtain ⟨⟨pa1, pc1, _, _, pv1, -⟩, -⟩ := hy.s1
  obtain ⟨⟨pa2, pc2, _, _, pv2, -⟩, -⟩ := hy.s2
  obtain ⟨⟨pa3, pc3, _, _, pv3, -⟩, -⟩ := hy.s3
  have HB2 := Lib.hid b2
  obtain ⟨n, hN⟩ : ∃ n, y.fl.length = n := ⟨_, rfl⟩
  rw [hN] at hfv' hc ha hn
  have HN := Lib.hid hN
  obtain ⟨F, hF⟩ : ∃ F : List Fv → List Bs, (fun l => placesL x.ds y.nm l) = F := ⟨_, rfl⟩
  obtain ⟨D, hD⟩ : ∃ D : Bs → Bs, (fun p => toD x.ds p y.nm) = D := ⟨_, rfl⟩
  have HTK : Hid (∀ k f, y.fl[k]? = some f → F (y.fl.take (k + 1)) = F (y.fl.take k) ++ (if notDir f = true then [D f.pt] else []) ∧ (F (y.fl.take k)).length ≤ k) := Lib.hid (fun k f h => by
    rw [← hF, ← hD]
    exact ⟨places_take h, Nat.le_trans (places_len _ _ _) (by rw [List.length_take]; omega)⟩)
  have HF0 : Hid (F (y.fl.take 0) = []) := Lib.hid (by rw [← hF]; rfl)
  have HFE : Hid (F (y.fl.take n) = placesL x.ds y.nm y.fl) := Lib.hid (by rw [← hF, List.take_of_length_le (by omega)])
  obtain ⟨RES, hRES⟩ : ∃ q, placesL x.ds y.nm y.fl = q := ⟨_, rfl⟩
  rw [hRES] at HFE ⊢
  have TR2 : Hid (∀ W (q : ByteArray), Below w2.heap.size w2 W → Calls Tryz.prog 30 #[x.dv, .string q, .string (⟨y.nm.toArray⟩ : ByteArray)] W fun e w' => e = .returned (.string (bsA (D q.data.toList))) ∧ Below W.heap.size W w') := Lib.hid (fun W q hb => by rw [← hD]; exact TR.out W q hb)
  have HW2 := Lib.hid hw2
  have HZ2 := Lib.hid hz2
  clear TR hF hD hRES hcell hN hx hy b1 b2 hB hB2 n0 n1 hw2 hd hz2
  obtain ⟨rs, ds, ls, rv, dv, ov, av, iv, fv, lv⟩ := x
  obtain ⟨nm, vr, dp, cn, rp, fl, it, s0, s1, s2, s3, qdv, qcv, qrv, qfv, qiv, v0, v1, v2, v3⟩ := y
  unfold agS agP
  dsimp only at *
  subst hrv hov hav hiv hfv hdv hlv hfv' pdv pcv prv piv pv0 pv1 pv2 pv3
  simp only [List.length_map] at *
  generalize rs.length = rn at *
  generalize dp.length = dpn at *
  generalize cn.length = cnn at *
  generalize rp.length = rpn at *
  generalize it.length = itn at *
  generalize s0.length = sn0 at *
  generalize s1.length = sn1 at *
  generalize s2.length = sn2 at *
  generalize s3.length = sn3 at *
  generalize (⟨nm.toArray⟩ : ByteArray) = NM at *
  generalize (⟨vr.toArray⟩ : ByteArray) = VR at *
  go_enter Tryz.func52, Tryz.ntmps52
  have hw2 := HW2.out
  obtain ⟨e1, e2, e3⟩ := HCEL.out w2 (Below.refl _ _)
  go_wp2
  clear hw2 e1 e2 e3
  go_loopw [5, 11] (fun u i wr => ∃ (k : Nat), k ≤ n ∧ i = .int .i64 k ∧ Hid (OwnT wr w2.heap.size u (F (fl.take k))) ∧ Hid (Below w2.heap.size w2 wr)) (fun _ i _ => n - (intOf i).toNat)
  case atStart => exact ⟨0, by omega, rfl, Lib.hid (by rw [HF0.out]; exact OwnT.nil _ _), Lib.hid (Below.refl _ _)⟩
  case round =>
    obtain ⟨k, hk, rfl, HO, HB⟩ := hrel
    have hsz := HB.out.size
    obtain ⟨e1, e2, e3⟩ := HCEL.out _ HB.out
    by_cases hlt : k < n
    · obtain ⟨rfl, hbw⟩ := ha (by omega)
      obtain ⟨f, hpx⟩ : ∃ f, fl[k]? = some f := ⟨_, List.getElem?_eq_getElem (by rw [HN.out]; exact hlt)⟩
      obtain ⟨c0, c1, c2, c3, c4, c5, c6⟩ := HC.out k f hpx
      rw [← HB.out.cell (p := ⟨b, o + k * 7, none⟩) hbw] at c0
      rw [← HB.out.cell (p := ⟨b, o + k * 7 + 1, none⟩) hbw] at c1
      rw [← HB.out.cell (p := ⟨b, o + k * 7 + 2, none⟩) hbw] at c2
      rw [← HB.out.cell (p := ⟨b, o + k * 7 + 3, none⟩) hbw] at c3
      rw [← HB.out.cell (p := ⟨b, o + k * 7 + 4, none⟩) hbw] at c4
      rw [← HB.out.cell (p := ⟨b, o + k * 7 + 5, none⟩) hbw] at c5
      rw [← HB.out.cell (p := ⟨b, o + k * 7 + 6, none⟩) hbw] at c6
      obtain ⟨htk, hlen⟩ := HTK.out k f hpx
      obtain ⟨pt, kd, mm, uu, gg, tx, cf⟩ := f
      dsimp only at c0 c1 c2 c3 c4 c5 c6 htk
      obtain ⟨X, hX⟩ : ∃ X : ByteArray, (⟨pt.toArray⟩ : ByteArray) = X := ⟨_, rfl⟩
      have hXL : X.data.toList = pt := by rw [← hX]
      rw [hX] at c0
      generalize (⟨tx.toArray⟩ : ByteArray) = Y at *
      have B3 := HB.out.alloc hsz (.cells #[.string X, .int .i64 kd, .int .i64 mm, .int .i64 uu, .int .i64 gg, .string Y, .bool cf] 56)
      have hb3 := (Below.refl wr.heap.size wr).alloc (Nat.le_refl _) (.cells #[.string X, .int .i64 kd, .int .i64 mm, .int .i64 uu, .int .i64 gg, .string Y, .bool cf] 56)
      have HO3 := Lib.hid (HO.out.on hb3)
      have HB3 := Lib.hid B3
      obtain ⟨E1, E2, E3⟩ := HCEL.out _ B3
      have T1 := TR2.out _ X B3
      rw [hXL] at T1
      have HDX : Hid ((bsA (D pt)).data.toList = D pt) := Lib.hid (by simp)
      have HTK3 := Lib.hid htk
      generalize bsA (D pt) = Z at *
      by_cases hkd : kd = 1
      · subst hkd
        have HT2 : Hid (F (fl.take (k + 1)) = F (fl.take k)) := Lib.hid (by rw [HTK3.out]; simp [notDir])
        clear htk hXL hX hpx hb3 B3 T1
        go_wp2
        go_roundw
        case rel => exact ⟨k + 1, by omega, by go_num, by rw [HT2.out]; exact HO3, HB3⟩
        case measure => simp [intOf]; omega
      · have hkb : (kd == 1) = false := by simpa using hkd
        have HT2 : Hid (F (fl.take (k + 1)) = F (fl.take k) ++ [D pt]) := Lib.hid (by rw [HTK3.out]; simp [notDir, hkd])
        clear htk hXL hX hpx hb3 B3
        go_wp2_with (first
          | (go_at_call 30; (with_reducible refine T1.mono ?_); rintro e w4 ⟨rfl, hb⟩; have HB4 := Lib.hid (HB3.out.trans (hb.mono HB3.out.size)); have HO4 := Lib.hid (HO3.out.on hb); have hsz4 := HB4.out.size; clear hb T1)
          | (at_builtin; refine wpList_append_own _ rfl _ _ 33 rfl w2.heap.size 9 i0 _ 1 16 Tryz.underlying33 hi hz0 hz1 hz2' rfl (by decide) _ _ _ rfl (World.ownsRow.alloc HO4.out _) ⟨w4.heap.size, 0, none⟩ 1 1 [.string Z] rfl rfl ?c1 ?c2 ?c3 ?c4 ?c5 ?_))
        case c1 =>
          intro j u hj
          match j, hj with
          | 0, hj => simp at hj; subst hj; simp [Addr.add]
        case c2 => intro u hu; simp at hu; subst hu; rfl
        case c3 => unfold maxLen; omega
        case c4 => omega
        case c5 => simp; omega
        intro v' w6 hown' hgrow _
        have HO6 : Hid (OwnT w6 w2.heap.size v' (F (fl.take (k + 1)))) := Lib.hid (by rw [HT2.out]; exact OwnT.app HDX.out (by simpa using hown'))
        have HB6 : Hid (Below w2.heap.size w2 w6) := Lib.hid (OwnT.belowA HB4.out HO4.out hgrow (Nat.le_refl _) hsz4)
        clear hown' hgrow
        go_wp2
        go_roundw
        case rel => exact ⟨k + 1, by omega, by go_num, HO6, HB6⟩
        case measure => simp [intOf]; omega
    · have hkn : k = n := by omega
      subst hkn
      have HFIN := Lib.hid (show OwnT wr w.heap.size _ RES from by have := HO.out.mono (base' := w.heap.size) (by have := HZ2.out; omega); rw [HFE.out] at this; exact this)
      have HFB := Lib.hid (HB2.out.trans (HB.out.mono HB2.out.size))
      clear hlt
      go_wp2
      first | (go_ret; exact ⟨_, rfl, HFIN.out, HFB.out⟩) | exact ⟨_, rfl, HFIN.out, HFB.out⟩
end Go.Proofs.YtkcamfcjkjiijaaGreatDoor
namespace Go.Proofs.YtkcamfcjkjiijaaGreatDoor
open Go.RowKit Go.Shelf
/-- Whether the list at place k loses something to a package of a name that replaces some. -/
def losB (nm : Bs) (rp : List Bs) (L : List Lp) (k : Nat) (p : Lp) : Bool := decide (idxGxT L (nameIs p.1.1) = (k : Int)) && !decide (p.1.1 = nm) && decide (p.1.1 ∈ rp)
def losOne (ds : List Dv) (nm : Bs) (rp ats : List Bs) (L : List Lp) (k : Nat) (p : Lp) : List Ls := if losB nm rp L k p = true ∧ 0 < (locL ds p.1.1 p.1.2 ats).length then [(p.1.1, locL ds p.1.1 p.1.2 ats)] else []
def lostTo (ds : List Dv) (nm : Bs) (rp ats : List Bs) (L : List Lp) : Nat → List Ls
  | 0 => []
  | k + 1 => lostTo ds nm rp ats L k ++ (match L[k]? with
    | some p => losOne ds nm rp ats L k p
    | none => [])
theorem lostTo_next {ds : List Dv} {nm : Bs} {rp ats : List Bs} {L : List Lp} {k : Nat} {p : Lp} (h : L[k]? = some p) : lostTo ds nm rp ats L (k + 1) = lostTo ds nm rp ats L k ++ losOne ds nm rp ats L k p := by
  show _ ++ _ = _
  rw [h]
theorem losOne_len (ds : List Dv) (nm : Bs) (rp ats : List Bs) (L : List Lp) (k : Nat) (p : Lp) : (losOne ds nm rp ats L k p).length ≤ 1 := by
  unfold losOne
  split <;> simp
theorem lostTo_len (ds : List Dv) (nm : Bs) (rp ats : List Bs) (L : List Lp) : ∀ k, (lostTo ds nm rp ats L k).length ≤ k
  | 0 => by simp [lostTo]
  | k + 1 => by
    have := lostTo_len ds nm rp ats L k
    unfold lostTo
    rw [List.length_append]
    cases h : L[k]? with
    | none => simp; omega
    | some p => have := losOne_len ds nm rp ats L k p; simp; omega
theorem lostTo_mem {ds : List Dv} {nm : Bs} {rp ats : List Bs} {L : List Lp} {x : Ls} : ∀ {n : Nat}, x ∈ lostTo ds nm rp ats L n → ∃ (k : Nat) (p : Lp), k < n ∧ L[k]? = some p ∧ losB nm rp L k p = true ∧ x = (p.1.1, locL ds p.1.1 p.1.2 ats)
  | 0, h => by simp [lostTo] at h
  | n + 1, h => by
    unfold lostTo at h
    rcases List.mem_append.1 h with h | h
    · obtain ⟨k, p, h1, h2⟩ := lostTo_mem h
      exact ⟨k, p, by omega, h2⟩
    · cases hl : L[n]? with
      | none => rw [hl] at h; simp at h
      | some p =>
        rw [hl] at h
        dsimp only at h
        unfold losOne at h
        split at h
        · rename_i g
          exact ⟨n, p, by omega, hl, g.1, by simpa using h⟩
        · simp at h
/-- What is left of lists behind those whose names are done. -/
structure Left (ds : List Dv) (ats : List Bs) (L : List Lp) (M : List Ls) (done : List Bs) : Prop where
  len : M.length = L.length
  each : ∀ (k : Nat) (q : Lp), L[k]? = some q → ∃ q' : Ls, M[k]? = some q' ∧ q'.1 = q.1.1 ∧ (∀ p ∈ q'.2, p ∈ q.1.2) ∧ q'.2.length ≤ q.1.2.length ∧ (q.1.1 ∈ done → ∀ p ∈ q'.2, toD ds p q.1.1 ∉ ats)
theorem Left.start (ds : List Dv) (ats : List Bs) (L : List Lp) : Left ds ats L (L.map (·.1)) [] := ⟨by simp, fun k q hq => ⟨q.1, by rw [List.getElem?_map, hq]; rfl, rfl, fun p h => h, Nat.le_refl _, fun h => by cases h⟩⟩
/-- A slice of lists, each of whose paths the call owns. -/
def OwnM (w : World) (base : Nat) (v : Value) (M : List Lp) : Prop := OwnC w base v M ∧ ∀ p ∈ M, OwnT w base p.2 p.1.2
theorem OwnM.nil (w : World) (base : Nat) : OwnM w base (.slice none 0 0) [] := ⟨OwnC.nil _ _, fun p h => by cases h⟩
theorem OwnM.holds {w : World} {base : Nat} {v : Value} {M : List Lp} (h : OwnM w base v M) : HoldL w v M := h.1.holds (fun p hp => (h.2 p hp).holds)
theorem OwnM.mono {w : World} {base B : Nat} {v : Value} {M : List Lp} (h : OwnM w base v M) (hB : B ≤ base) : OwnM w B v M := ⟨h.1.mono hB, fun p hp => (h.2 p hp).mono hB⟩
theorem OwnC.onC {w w' : World} {base : Nat} {v : Value} {l : List Lp} (h : OwnC w base v l) (hb : Below w.heap.size w w') : OwnC w' base v l := World.ownsRow.kept h (grown_ofB hb) (by cases v.ownBlock <;> simp)
theorem OwnM.on {w w' : World} {base : Nat} {v : Value} {M : List Lp} (h : OwnM w base v M) (hb : Below w.heap.size w w') : OwnM w' base v M := ⟨h.1.onC hb, fun p hp => (h.2 p hp).on hb⟩
theorem OwnM.app {w w' : World} {o : Obj} {base : Nat} {v v' : Value} {M : List Lp} {x : Lp} {a : ByteArray} {u : Value} (h : OwnM w base v M) (hx : OwnT w base x.2 x.1.2) (ha : bsT x.1.1 = a) (hu : x.2 = u) (hg : (w.alloc o).grownBy w' v.ownBlock) (h' : w'.ownsRow base 63 2 v' (M.length + 1) (lcells M ++ [.string a, u])) : OwnM w' base v' (M ++ [x]) :=
  ⟨OwnC.app ha hu h', fun p hp => by
    rcases List.mem_append.1 hp with g | g
    · exact World.ownsRow.kept (World.ownsRow.alloc (h.2 p g) o) hg (apart_types (h.2 p g) h.1)
    · obtain rfl : p = x := by simpa using g
      exact World.ownsRow.kept (World.ownsRow.alloc hx o) hg (apart_types hx h.1)⟩
def LostPost (w : World) (R : List Ls) (e : Ending) (w' : World) : Prop := ∃ r M, e = .returned r ∧ M.map (·.1) = R ∧ OwnM w' w.heap.size r M ∧ Below w.heap.size w w'
end Go.Proofs.YtkcamfcjkjiijaaGreatDoor
