/-
  check.located: the paths of a list that lie at some places; nothing old turns.
-/
import Derived.Test.YtkcamfcjkjiijaaGreatDoorGEcFewS
namespace Go.Proofs.YtkcamfcjkjiijaaGreatDoor
open Go.RowKit Go.Shelf
def locL (ds : List Dv) (nm : Bs) (ps ats : List Bs) : List Bs := ps.filter fun p => decide (toD ds p nm ∈ ats)
theorem loc_take {ds : List Dv} {nm : Bs} {ps ats : List Bs} {k : Nat} {p : Bs} (h : ps[k]? = some p) : locL ds nm (ps.take (k + 1)) ats = locL ds nm (ps.take k) ats ++ (if decide (toD ds p nm ∈ ats) = true then [p] else []) := by
  unfold locL
  rw [List.take_add_one, h, List.filter_append]
  congr 1
  by_cases g : toD ds p nm ∈ ats <;> simp [g]
theorem loc_len (ds : List Dv) (nm : Bs) (ps ats : List Bs) : (locL ds nm ps ats).length ≤ ps.length := List.length_filter_le _ _
set_option maxRecDepth 100000 in
set_option maxHeartbeats 8000000 in
theorem located_any (x : Stv) (hd : x.ds.length ≤ 90000) (nm : ByteArray) (pv : Value) (ps : List Bs) (hp : ps.length ≤ 90000) (u : Value) (ats : List Bs) (hat : ats.length ≤ 90000) (w : World) (hx : InSt w x) (h1 : HoldT w pv ps) (h2 : HoldT w u ats) :
    Calls Tryz.prog 49 #[agS x, .agg #[.string nm, pv], u] w fun e w' => ∃ r, e = .returned r ∧ OwnT w' w.heap.size r (locL x.ds nm.data.toList ps ats) ∧ Below w.heap.size w w' := by
  obtain ⟨i0, hi, hz0, hz1, hz2'⟩ := info_parts infoT
  have b1 := (Below.refl w.heap.size w).alloc (Nat.le_refl _) (.cells #[x.rv, x.dv, x.ov, x.av, x.iv, x.fv, x.lv] 30)
  have b2 := b1.alloc b1.size (.cells #[.string nm, pv] 63)
  have hB : (w.alloc (.cells #[x.rv, x.dv, x.ov, x.av, x.iv, x.fv, x.lv] 30)).cell? ⟨w.heap.size, 1, none⟩ = some x.dv := boxV7 w x.rv x.dv x.ov x.av x.iv x.fv x.lv 30 1 _ rfl
  obtain ⟨n0, n1⟩ := boxV2U (w.alloc (.cells #[x.rv, x.dv, x.ov, x.av, x.iv, x.fv, x.lv] 30)) (.string nm) pv 63
  have hB2 := (((Below.refl _ (w.alloc (.cells #[x.rv, x.dv, x.ov, x.av, x.iv, x.fv, x.lv] 30))).alloc (Nat.le_refl _) (.cells #[.string nm, pv] 63)).cell (p := ⟨w.heap.size, 1, none⟩) (by simp)).trans hB
  obtain ⟨w2, hw2⟩ : ∃ w2, (w.alloc (.cells #[x.rv, x.dv, x.ov, x.av, x.iv, x.fv, x.lv] 30)).alloc (.cells #[.string nm, pv] 63) = w2 := ⟨_, rfl⟩
  have hz2 : w2.heap.size = w.heap.size + 2 := by rw [← hw2]; simp
  rw [hw2] at b2 n0 n1 hB2
  simp only [World.size_alloc] at n0 n1
  have HCEL : Hid (∀ W, Below w2.heap.size w2 W → W.cell? ⟨w.heap.size, 1, none⟩ = some x.dv ∧ W.cell? ⟨w.heap.size + 1, 0, none⟩ = some (.string nm) ∧ W.cell? ⟨w.heap.size + 1, 1, none⟩ = some pv) := Lib.hid (fun W hb => ⟨(hb.cell (p := ⟨w.heap.size, 1, none⟩) (show w.heap.size < w2.heap.size by omega)).trans hB2, (hb.cell (p := ⟨w.heap.size + 1, 0, none⟩) (show w.heap.size + 1 < w2.heap.size by omega)).trans n0, (hb.cell (p := ⟨w.heap.size + 1, 1, none⟩) (show w.heap.size + 1 < w2.heap.size by omega)).trans n1⟩)
  have TR : Hid (∀ W (q : ByteArray), Below w2.heap.size w2 W → Calls Tryz.prog 30 #[x.dv, .string q, .string nm] W (ToPost x.ds q.data.toList nm.data.toList W)) := Lib.hid (fun W q hb => true_any x.dv x.ds hd q nm W (hx.on (b2.trans (hb.mono b2.size))).ds)
  have CT : Hid (∀ W (q : ByteArray), Below w2.heap.size w2 W → Calls Tryz.prog 53 #[u, .string q] W fun e w' => e = .returned (.bool (decide (q.data.toList ∈ ats))) ∧ W = w') := Lib.hid (fun W q hb => contains_any u ats hat q W (h2.on (b2.trans (hb.mono b2.size))))
  have h1' := h1.on b2
  obtain ⟨a, c, b, o, rfl, hc, ha, hcell⟩ := h1'
  have HC := Lib.hid hcell
  obtain ⟨⟨⟨ra, rc, -, -, hrv, -⟩, -⟩, ⟨oa, on, oc, hov⟩, ⟨aa, an, ac, hav⟩, ⟨ia, im, ic, hiv⟩, ⟨fa, fn, fc, hfv⟩, ⟨da, dn, dc, hdv⟩, ⟨la, ln, lc, hlv⟩⟩ := inS7_of hx
  obtain ⟨ua, uc, -, -, rfl, -⟩ := h2
  obtain ⟨n, hN⟩ : ∃ n, ps.length = n := ⟨_, rfl⟩
  have HB2 := Lib.hid b2
  have HW2 := Lib.hid hw2
  rw [hN] at hc ha hp HW2 HCEL ⊢
  have HN := Lib.hid hN
  obtain ⟨F, hF⟩ : ∃ F : List Bs → List Bs, (fun l => locL x.ds nm.data.toList l ats) = F := ⟨_, rfl⟩
  have HTK : Hid (∀ k p, ps[k]? = some p → F (ps.take (k + 1)) = F (ps.take k) ++ (if decide (toD x.ds p nm.data.toList ∈ ats) = true then [p] else []) ∧ (F (ps.take k)).length ≤ k) := Lib.hid (fun k p h => by
    rw [← hF]
    exact ⟨loc_take h, Nat.le_trans (loc_len _ _ _ _) (by rw [List.length_take]; omega)⟩)
  have HF0 : Hid (F (ps.take 0) = []) := Lib.hid (by rw [← hF]; rfl)
  have HFE : Hid (F (ps.take n) = locL x.ds nm.data.toList ps ats) := Lib.hid (by rw [← hF, List.take_of_length_le (by omega)])
  obtain ⟨RES, hRES⟩ : ∃ q, locL x.ds nm.data.toList ps ats = q := ⟨_, rfl⟩
  rw [hRES] at HFE ⊢
  obtain ⟨D, hD⟩ : ∃ D : Bs → Bs, (fun p => toD x.ds p nm.data.toList) = D := ⟨_, rfl⟩
  have TR2 : Hid (∀ W (q : ByteArray), Below w2.heap.size w2 W → Calls Tryz.prog 30 #[x.dv, .string q, .string nm] W fun e w' => e = .returned (.string (bsA (D q.data.toList))) ∧ Below W.heap.size W w') := Lib.hid (fun W q hb => by rw [← hD]; exact TR.out W q hb)
  have HTK2 : Hid (∀ k p, ps[k]? = some p → F (ps.take (k + 1)) = F (ps.take k) ++ (if decide (D p ∈ ats) = true then [p] else []) ∧ (F (ps.take k)).length ≤ k) := Lib.hid (fun k p h => by rw [← hD]; exact HTK.out k p h)
  clear TR HTK hF hD hRES hcell hN hx h1 b1 b2 hB hB2 n0 n1 hw2 hd hat
  obtain ⟨rs, ds, ls, rv, dv, ov, av, iv, fv, lv⟩ := x
  unfold agS
  dsimp only at *
  subst hrv hov hav hiv hfv hdv hlv
  simp only [List.length_map] at *
  generalize rs.length = rn at *
  generalize ats.length = un at *
  have HZ2 := Lib.hid hz2
  clear hz2
  go_enter Tryz.func49, Tryz.ntmps49
  have hw2 := HW2.out
  obtain ⟨e1, e2, e3⟩ := HCEL.out w2 (Below.refl _ _)
  go_wp2
  clear hw2 e1 e2 e3
  go_loopw [7, 13] (fun u i wr => ∃ (k : Nat), k ≤ n ∧ i = .int .i64 k ∧ Hid (OwnT wr w2.heap.size u (F (ps.take k))) ∧ Hid (Below w2.heap.size w2 wr)) (fun _ i _ => n - (intOf i).toNat)
  case atStart => exact ⟨0, by omega, rfl, Lib.hid (by rw [HF0.out]; exact OwnT.nil _ _), Lib.hid (Below.refl _ _)⟩
  case round =>
    obtain ⟨k, hk, rfl, HO, HB⟩ := hrel
    have hsz := HB.out.size
    by_cases hlt : k < n
    · obtain ⟨rfl, hbw⟩ := ha (by omega)
      obtain ⟨p, hpx⟩ : ∃ p, ps[k]? = some p := ⟨_, List.getElem?_eq_getElem (by rw [HN.out]; exact hlt)⟩
      have c0 := HC.out k p hpx
      rw [← HB.out.cell (p := ⟨b, o + k, none⟩) hbw] at c0
      obtain ⟨e1, e2, e3⟩ := HCEL.out _ HB.out
      obtain ⟨htk, hlen⟩ := HTK2.out k p hpx
      obtain ⟨X, hX⟩ : ∃ X : ByteArray, (⟨p.toArray⟩ : ByteArray) = X := ⟨_, rfl⟩
      have hXL : X.data.toList = p := by rw [← hX]
      rw [hX] at c0
      have T1 := TR2.out wr X HB.out
      rw [hXL] at T1
      obtain ⟨q, hq⟩ : ∃ q, decide (D p ∈ ats) = q := ⟨_, rfl⟩
      have C1 : Hid (∀ W, Below w2.heap.size w2 W → Calls Tryz.prog 53 #[.slice ua un uc, .string (bsA (D p))] W fun e w' => e = .returned (.bool q) ∧ W = w') := Lib.hid (fun W hb => by
        have := CT.out W (bsA (D p)) hb
        rw [show (bsA (D p)).data.toList = D p from by simp] at this
        rw [← hq]; exact this)
      rw [hq] at htk
      have HTK3 := Lib.hid htk
      have HXL := Lib.hid hXL
      generalize bsA (D p) = Y at *
      clear htk hXL hX hpx hq
      cases q
      · have HT2 : Hid (F (ps.take (k + 1)) = F (ps.take k)) := Lib.hid (by rw [HTK3.out]; simp)
        go_wp2_with (first
          | (go_at_call 30; (with_reducible refine T1.mono ?_); rintro e w4 ⟨rfl, hb⟩; have HB4 := Lib.hid (HB.out.trans (hb.mono HB.out.size)); have HO4 := Lib.hid (HO.out.on hb); have C2 := C1.out _ HB4.out; clear hb T1)
          | (go_at_call 53; (with_reducible refine C2.mono ?_); rintro e w5 ⟨rfl, rfl⟩; clear C2))
        go_roundw
        case rel => exact ⟨k + 1, by omega, by go_num, by rw [HT2.out]; exact HO4, HB4⟩
        case measure => simp [intOf]; omega
      · have HT2 : Hid (F (ps.take (k + 1)) = F (ps.take k) ++ [p]) := Lib.hid (by rw [HTK3.out]; simp)
        go_wp2_with (first
          | (go_at_call 30; (with_reducible refine T1.mono ?_); rintro e w4 ⟨rfl, hb⟩; have HB4 := Lib.hid (HB.out.trans (hb.mono HB.out.size)); have HO4 := Lib.hid (HO.out.on hb); have C2 := C1.out _ HB4.out; have hsz4 := HB4.out.size; clear hb T1)
          | (go_at_call 53; (with_reducible refine C2.mono ?_); rintro e w5 ⟨rfl, rfl⟩; clear C2)
          | (at_builtin; refine wpList_append_own _ rfl _ _ 33 rfl w2.heap.size 9 i0 _ 1 16 Tryz.underlying33 hi hz0 hz1 hz2' rfl (by decide) _ _ _ rfl (World.ownsRow.alloc HO4.out _) ⟨w4.heap.size, 0, none⟩ 1 1 [.string X] rfl rfl ?c1 ?c2 ?c3 ?c4 ?c5 ?_))
        case c1 =>
          intro j u hj
          match j, hj with
          | 0, hj => simp at hj; subst hj; simp [Addr.add]
        case c2 => intro u hu; simp at hu; subst hu; rfl
        case c3 => unfold maxLen; omega
        case c4 => omega
        case c5 => simp; omega
        intro v' w6 hown' hgrow _
        have HO6 : Hid (OwnT w6 w2.heap.size v' (F (ps.take (k + 1)))) := Lib.hid (by rw [HT2.out]; exact OwnT.app HXL.out (by simpa using hown'))
        have HB6 : Hid (Below w2.heap.size w2 w6) := Lib.hid (OwnT.belowA HB4.out HO4.out hgrow (Nat.le_refl _) hsz4)
        clear hown' hgrow
        go_wp2
        go_roundw
        case rel => exact ⟨k + 1, by omega, by go_num, HO6, HB6⟩
        case measure => simp [intOf]; omega
    · have hkn : k = n := by omega
      subst hkn
      have HR : Hid (∃ r, OwnT wr w.heap.size r RES → True) := Lib.hid ⟨.bool true, fun _ => trivial⟩
      clear hlt
      go_wp2
      go_ret
      exact ⟨_, rfl, by have := HO.out.mono (base' := w.heap.size) (by have := HZ2.out; omega); rw [HFE.out] at this; exact this, HB2.out.trans (HB.out.mono HB2.out.size)⟩
end Go.Proofs.YtkcamfcjkjiijaaGreatDoor
