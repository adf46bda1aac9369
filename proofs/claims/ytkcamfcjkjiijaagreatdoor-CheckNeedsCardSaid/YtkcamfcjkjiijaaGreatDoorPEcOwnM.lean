/-
  Who owns what a package wants, in the two ways in which it is gathered; nothing of the program.
-/
import Derived.Test.YtkcamfcjkjiijaaGreatDoorPEcFewS
import Derived.DeepKeys4
import Derived.Maps.OwnSet
import Derived.Test.YtkcamfcjkjiijaaGreatDoorPPSortMath
namespace Go.Proofs.YtkcamfcjkjiijaaGreatDoor
open Go.RowKit Go.Shelf
def locL (ds : List Dv) (nm : Bs) (ps ats : List Bs) : List Bs := ps.filter fun p => decide (toD ds p nm ∈ ats)
theorem loc_take {ds : List Dv} {nm : Bs} {ps ats : List Bs} {k : Nat} {p : Bs} (h : ps[k]? = some p) : locL ds nm (ps.take (k + 1)) ats = locL ds nm (ps.take k) ats ++ (if decide (toD ds p nm ∈ ats) = true then [p] else []) := by
  unfold locL
  rw [List.take_add_one, h, List.filter_append]
  congr 1
  by_cases g : toD ds p nm ∈ ats <;> simp [g]
theorem loc_len (ds : List Dv) (nm : Bs) (ps ats : List Bs) : (locL ds nm ps ats).length ≤ ps.length := List.length_filter_le _ _
set_option maxRecDepth 100000 in
set_option maxHeartbeats 8000000 in
theorem located_any (x : Stv) (hd : x.ds.length ≤ 90000) (nm : ByteArray) (pv : Value) (ps : List Bs) (hp : ps.length ≤ 90000) (u : Value) (ats : List Bs) (hat : ats.length ≤ 90000) (w : World) (hx : InSt w x) (h1 : HoldT w pv ps) (h2 : HoldT w u ats) :
    Calls Tryz.prog 49 #[agS x, .agg #[.string nm, pv], u] w fun e w' => ∃ r, e = .returned r ∧ OwnT w' w.heap.size r (locL x.ds nm.data.toList ps ats) ∧ Below w.heap.size w w' := by
  obtain ⟨i0, hi, hz0, hz1, hz2'⟩ := info_parts infoT
  have b1 := (Below.refl w.heap.size w).alloc (Nat.le_refl _) (.cells #[x.rv, x.dv, x.ov, x.av, x.iv, x.fv, x.lv] 30)
  have b2 := b1.alloc b1.size (.cells #[.string nm, pv] 63)
  have hB : (w.alloc (.cells #[x.rv, x.dv, x.ov, x.av, x.iv, x.fv, x.lv] 30)).cell? ⟨w.heap.size, 1, none⟩ = some x.dv := boxV7 w x.rv x.dv x.ov x.av x.iv x.fv x.lv 30 1 _ rfl
  obtain ⟨n0, n1⟩ := boxV2U (w.alloc (.cells #[x.rv, x.dv, x.ov, x.av, x.iv, x.fv, x.lv] 30)) (.string nm) pv 63
  have hB2 := (((Below.refl _ (w.alloc (.cells #[x.rv, x.dv, x.ov, x.av, x.iv, x.fv, x.lv] 30))).alloc (Nat.le_refl _) (.cells #[.string nm, pv] 63)).cell (p := ⟨w.heap.size, 1, none⟩) (by simp)).trans hB
  obtain ⟨w2, hw2⟩ : ∃ w2, (w.alloc (.cells #[x.rv, x.dv, x.ov, x.av, x.iv, x.fv, x.lv] 30)).alloc (.cells #[.string nm, pv] 63) = w2 := ⟨_, rfl⟩
  have hz2 : w2.heap.size = w.heap.size + 2 := by rw [← hw2]; simp
  rw [hw2] at b2 n0 n1 hB2
  simp only [World.size_alloc] at n0 n1
  have HCEL : Hid (∀ W, Below w2.heap.size w2 W → W.cell? ⟨w.heap.size, 1, none⟩ = some x.dv ∧ W.cell? ⟨w.heap.size + 1, 0, none⟩ = some (.string nm) ∧ W.cell? ⟨w.heap.size + 1, 1, none⟩ = some pv) := Lib.hid (fun W hb => ⟨(hb.cell (p := ⟨w.heap.size, 1, none⟩) (show w.heap.size < w2.heap.size by omega)).trans hB2, (hb.cell (p := ⟨w.heap.size + 1, 0, none⟩) (show w.heap.size + 1 < w2.heap.size by omega)).trans n0, (hb.cell (p := ⟨w.heap.size + 1, 1, none⟩) (show w.heap.size + 1 < w2.heap.size by omega)).trans n1⟩)
  have TR : Hid (∀ W (q : ByteArray), Below w2.heap.size w2 W → Calls Tryz.prog 30 #[x.dv, .string q, .string nm] W (ToPost x.ds q.data.toList nm.data.toList W)) := Lib.hid (fun W q hb => true_any x.dv x.ds hd q nm W (hx.on (b2.trans (hb.mono b2.size))).ds)
  have CT : Hid (∀ W (q : ByteArray), Below w2.heap.size w2 W → Calls Tryz.prog 53 #[u, .string q] W fun e w' => e = .returned (.bool (decide (q.data.toList ∈ ats))) ∧ W = w') := Lib.hid (fun W q hb => contains_any u ats hat q W (h2.on (b2.trans (hb.mono b2.size))))
  have h1' := h1.on b2
  obtain ⟨a, c, b, o, rfl, hc, ha, hcell⟩ := h1'
  have HC := Lib.hid hcell
  obtain ⟨⟨⟨ra, rc, -, -, hrv, -⟩, -⟩, ⟨oa, on, oc, hov⟩, ⟨aa, an, ac, hav⟩, ⟨ia, im, ic, hiv⟩, ⟨fa, fn, fc, hfv⟩, ⟨da, dn, dc, hdv⟩, ⟨la, ln, lc, hlv⟩⟩ := inS7_of hx
  obtain ⟨ua, uc, -, -, rfl, -⟩ := h2
  obtain ⟨n, hN⟩ : ∃ n, ps.length = n := ⟨_, rfl⟩
  have HB2 := Lib.hid b2
  have HW2 := Lib.hid hw2
  rw [hN] at hc ha hp HW2 HCEL ⊢
  have HN := Lib.hid hN
  obtain ⟨F, hF⟩ : ∃ F : List Bs → List Bs, (fun l => locL x.ds nm.data.toList l ats) = F := ⟨_, rfl⟩
  have HTK : Hid (∀ k p, ps[k]? = some p → F (ps.take (k + 1)) = F (ps.take k) ++ (if decide (toD x.ds p nm.data.toList ∈ ats) = true then [p] else []) ∧ (F (ps.take k)).length ≤ k) := Lib.hid (fun k p h => by
    rw [← hF]
    exact ⟨loc_take h, Nat.le_trans (loc_len _ _ _ _) (by rw [List.length_take]; omega)⟩)
  have HF0 : Hid (F (ps.take 0) = []) := Lib.hid (by rw [← hF]; rfl)
  have HFE : Hid (F (ps.take n) = locL x.ds nm.data.toList ps ats) := Lib.hid (by rw [← hF, List.take_of_length_le (by omega)])
  obtain ⟨RES, hRES⟩ : ∃ q, locL x.ds nm.data.toList ps ats = q := ⟨_, rfl⟩
  rw [hRES] at HFE ⊢
  obtain ⟨D, hD⟩ : ∃ D : Bs → Bs, (fun p => toD x.ds p nm.data.toList) = D := ⟨_, rfl⟩
  have TR2 : Hid (∀ W (q : ByteArray), Below w2.heap.size w2 W → Calls Tryz.prog 30 #[x.dv, .string q, .string nm] W fun e w' => e = .returned (.string (bsA (D q.data.toList))) ∧ Below W.heap.size W w') := Lib.hid (fun W q hb => by rw [← hD]; exact TR.out W q hb)
  have HTK2 : Hid (∀ k p, ps[k]? = some p → F (ps.take (k + 1)) = F (ps.take k) ++ (if decide (D p ∈ ats) = true then [p] else []) ∧ (F (ps.take k)).length ≤ k) := Lib.hid (fun k p h => by rw [← hD]; exact HTK.out k p h)
  clear TR HTK hF hD hRES hcell hN hx h1 b1 b2 hB hB2 n0 n1 hw2 hd hat
  obtain ⟨rs, ds, ls, rv, dv, ov, av, iv, fv, lv⟩ := x
  unfold agS
  dsimp only at *
  subst hrv hov hav hiv hfv hdv hlv
  simp only [List.length_map] at *
  generalize rs.length = rn at *
  generalize ats.length = un at *
  have HZ2 := Lib.hid hz2
  clear hz2
  go_enter Tryz.func49, Tryz.ntmps49
  have hw2 := HW2.out
  obtain ⟨e1, e2, e3⟩ := HCEL.out w2 (Below.refl _ _)
  go_wp2
  clear hw2 e1 e2 e3
  go_loopw [7, 13] (fun u i wr => ∃ (k : Nat), k ≤ n ∧ i = .int .i64 k ∧ Hid (OwnT wr w2.heap.size u (F (ps.take k))) ∧ Hid (Below w2.heap.size w2 wr)) (fun _ i _ => n - (intOf i).toNat)
  case atStart => exact ⟨0, by omega, rfl, Lib.hid (by rw [HF0.out]; exact OwnT.nil _ _), Lib.hid (Below.refl _ _)⟩
  case round =>
    obtain ⟨k, hk, rfl, HO, HB⟩ := hrel
    have hsz := HB.out.size
    by_cases hlt : k < n
    · obtain ⟨rfl, hbw⟩ := ha (by omega)
      obtain ⟨p, hpx⟩ : ∃ p, ps[k]? = some p := ⟨_, List.getElem?_eq_getElem (by rw [HN.out]; exact hlt)⟩
      have c0 := HC.out k p hpx
      rw [← HB.out.cell (p := ⟨b, o + k, none⟩) hbw] at c0
      obtain ⟨e1, e2, e3⟩ := HCEL.out _ HB.out
      obtain ⟨htk, hlen⟩ := HTK2.out k p hpx
      obtain ⟨X, hX⟩ : ∃ X : ByteArray, (⟨p.toArray⟩ : ByteArray) = X := ⟨_, rfl⟩
      have hXL : X.data.toList = p := by rw [← hX]
      rw [hX] at c0
      have T1 := TR2.out wr X HB.out
      rw [hXL] at T1
      obtain ⟨q, hq⟩ : ∃ q, decide (D p ∈ ats) = q := ⟨_, rfl⟩
      have C1 : Hid (∀ W, Below w2.heap.size w2 W → Calls Tryz.prog 53 #[.slice ua un uc, .string (bsA (D p))] W fun e w' => e = .returned (.bool q) ∧ W = w') := Lib.hid (fun W hb => by
        have := CT.out W (bsA (D p)) hb
        rw [show (bsA (D p)).data.toList = D p from by simp] at this
        rw [← hq]; exact this)
      rw [hq] at htk
      have HTK3 := Lib.hid htk
      have HXL := Lib.hid hXL
      generalize bsA (D p) = Y at *
      clear htk hXL hX hpx hq
      cases q
      · have HT2 : Hid (F (ps.take (k + 1)) = F (ps.take k)) := Lib.hid (by rw [HTK3.out]; simp)
        go_wp2_with (first
          | (go_at_call 30; (with_reducible refine T1.mono ?_); rintro e w4 ⟨rfl, hb⟩; have HB4 := Lib.hid (HB.out.trans (hb.mono HB.out.size)); have HO4 := Lib.hid (HO.out.on hb); have C2 := C1.out _ HB4.out; clear hb T1)
          | (go_at_call 53; (with_reducible refine C2.mono ?_); rintro e w5 ⟨rfl, rfl⟩; clear C2))
        go_roundw
        case rel => exact ⟨k + 1, by omega, by go_num, by rw [HT2.out]; exact HO4, HB4⟩
        case measure => simp [intOf]; omega
      · have HT2 : Hid (F (ps.take (k + 1)) = F (ps.take k) ++ [p]) := Lib.hid (by rw [HTK3.out]; simp)
        go_wp2_with (first
          | (go_at_call 30; (with_reducible refine T1.mono ?_); rintro e w4 ⟨rfl, hb⟩; have HB4 := Lib.hid (HB.out.trans (hb.mono HB.out.size)); have HO4 := Lib.hid (HO.out.on hb); have C2 := C1.out _ HB4.out; have hsz4 := HB4.out.size; clear hb T1)
          | (go_at_call 53; (with_reducible refine C2.mono ?_); rintro e w5 ⟨rfl, rfl⟩; clear C2)
          | (at_builtin; refine wpList_append_own _ rfl _ _ 33 rfl w2.heap.size 9 i0 _ 1 16 Tryz.underlying33 hi hz0 hz1 hz2' rfl (by decide) _ _ _ rfl (World.ownsRow.alloc HO4.out _) ⟨w4.heap.size, 0, none⟩ 1 1 [.string X] rfl rfl ?c1 ?c2 ?c3 ?c4 ?c5 ?_))
        case c1 =>
          intro j u hj
          match j, hj with
          | 0, hj => simp at hj; subst hj; simp [Addr.add]
        case c2 => intro u hu; simp at hu; subst hu; rfl
        case c3 => unfold maxLen; omega
        case c4 => omega
        case c5 => simp; omega
        intro v' w6 hown' hgrow _
        have HO6 : Hid (OwnT w6 w2.heap.size v' (F (ps.take (k + 1)))) := Lib.hid (by rw [HT2.out]; exact OwnT.app HXL.out (by simpa using hown'))
        have HB6 : Hid (Below w2.heap.size w2 w6) := Lib.hid (OwnT.belowA HB4.out HO4.out hgrow (Nat.le_refl _) hsz4)
        clear hown' hgrow
        go_wp2
        go_roundw
        case rel => exact ⟨k + 1, by omega, by go_num, HO6, HB6⟩
        case measure => simp [intOf]; omega
    · have hkn : k = n := by omega
      subst hkn
      have HR : Hid (∃ r, OwnT wr w.heap.size r RES → True) := Lib.hid ⟨.bool true, fun _ => trivial⟩
      clear hlt
      go_wp2
      go_ret
      exact ⟨_, rfl, by have := HO.out.mono (base' := w.heap.size) (by have := HZ2.out; omega); rw [HFE.out] at this; exact this, HB2.out.trans (HB.out.mono HB2.out.size)⟩
end Go.Proofs.YtkcamfcjkjiijaaGreatDoor
namespace Go.Proofs.YtkcamfcjkjiijaaGreatDoor
open Go.RowKit Go.WideMaps Go.Maps
abbrev Sp := Bs × Bs
set_option maxRecDepth 100000 in
theorem laidOutS : laidOutB Tryz.prog = true := by kernel_rfl
set_option maxRecDepth 100000 in
theorem rowSp : (90 : TypeId) < Tryz.prog.types.size := of_decide_eq_true (by kernel_rfl)
set_option maxRecDepth 100000 in
theorem wideSp : (match Tryz.prog.underlying 90 with | some (.array _ _) | some (.struct _) => true | _ => false) = true := by kernel_rfl
set_option maxRecDepth 100000 in
theorem lawSp : Keyed Tryz.prog 90 := Keyed.of_law (deep_law_laid laidOutS (m := 2) (by omega) rowSp (by kernel_rfl) wideSp)
abbrev valSp (x : Sp) : Value := .agg #[.string (⟨x.1.toArray⟩ : ByteArray), .string (⟨x.2.toArray⟩ : ByteArray)]
set_option maxRecDepth 100000 in
theorem cellsOfSp : Tryz.prog.cellsOf 90 = 2 ∧ Tryz.prog.cellsOf 9 = 1 := ⟨by kernel_rfl, by kernel_rfl⟩
set_option maxRecDepth 100000 in
theorem lits_strS (m : Nat) (s : ByteArray) (h : s.size ≤ maxLen) : Tryz.prog.keyLits (m + 1) 9 [.string s] = some [.string s.data.toList] := by
  unfold Program.keyLits; simp [Tryz.underlying9, h]
set_option maxRecDepth 100000 in
theorem lits_sp (m : Nat) (s t : ByteArray) (hs : s.size ≤ maxLen) (ht : t.size ≤ maxLen) : Tryz.prog.keyLits (m + 2) 90 [.string s, .string t] = some [.string s.data.toList, .string t.data.toList] := by
  obtain ⟨c, c0⟩ := cellsOfSp
  unfold Program.keyLits
  simp [Tryz.underlying90, c, c0, List.range, List.range.loop, lits_strS m s hs, lits_strS m t ht]
set_option maxRecDepth 100000 in
theorem key_sp (s t : ByteArray) (hs : s.size ≤ maxLen) (ht : t.size ≤ maxLen) : ∃ kl, keyOf Tryz.prog 90 (.agg #[.string s, .string t]) = some kl := by
  obtain ⟨c, -⟩ := cellsOfSp
  obtain ⟨m, hm⟩ : ∃ m, Tryz.prog.types.size = m + 1 := ⟨Tryz.prog.types.size - 1, (Nat.sub_add_cancel (Nat.lt_of_le_of_lt (Nat.zero_le _) rowSp)).symm⟩
  have hkt : Tryz.prog.keyType 90 = true := by kernel_rfl
  have hl := lits_sp m s t hs ht
  unfold keyOf
  rw [Tryz.underlying90]
  simp only [hkt, Value.formed, Tryz.underlying90, c]
  rw [hm]
  simp [Value.cells, hl]
noncomputable def litSp (x : Sp) : Lit := (keyOf Tryz.prog 90 (valSp x)).getD (.bool false)
def GoodSp (x : Sp) : Prop := x.1.length ≤ maxLen ∧ x.2.length ≤ maxLen
set_option maxRecDepth 100000 in
theorem litS_is {x : Sp} (h : GoodSp x) : keyOf Tryz.prog 90 (valSp x) = some (litSp x) := by
  obtain ⟨kl, hk⟩ := key_sp (⟨x.1.toArray⟩ : ByteArray) (⟨x.2.toArray⟩ : ByteArray) (by rw [sizeOf, bytesOf]; exact h.1) (by rw [sizeOf, bytesOf]; exact h.2)
  unfold litSp
  rw [show valSp x = .agg #[.string (⟨x.1.toArray⟩ : ByteArray), .string (⟨x.2.toArray⟩ : ByteArray)] from rfl, hk]; rfl
set_option maxRecDepth 100000 in
theorem litS_inj {x y : Sp} (hx : GoodSp x) (hy : GoodSp y) (h : litSp x = litSp y) : x = y := by
  have e := lawSp.inj (litS_is hx) (by rw [h]; exact litS_is hy)
  simp only [valSp, Value.agg.injEq, Array.mk.injEq, List.cons.injEq, Value.string.injEq, ByteArray.mk.injEq, and_true] at e
  obtain ⟨h1, h2⟩ := e
  exact Prod.ext h1 h2
set_option maxRecDepth 100000 in
theorem litS_key {x : Sp} (h : GoodSp x) : WideAt.IsKeyLit (litSp x) := lawSp.key (litS_is h)
noncomputable def setSp (l : List Sp) : DataW Unit := setOf (.agg []) (l.map litSp)
set_option maxRecDepth 100000 in
theorem setSp_snoc (l : List Sp) (x : Sp) : setSp (l ++ [x]) = (setSp l).put (litSp x) (.agg []) := by unfold setSp; rw [List.map_append]; exact setOf_snoc _ _ _
set_option maxRecDepth 100000 in
theorem setSp_has (l : List Sp) (hl : ∀ y ∈ l, GoodSp y) {x : Sp} (hx : GoodSp x) : Maps.has (setSp l) (litSp x) = decide (x ∈ l) := by
  unfold setSp
  rw [has_setOf _ _ _ (fun k hk => by obtain ⟨y, hy, rfl⟩ := List.mem_map.1 hk; exact litS_key (hl y hy)), List.any_map, Bool.eq_iff_iff, List.any_eq_true, decide_eq_true_eq]
  constructor
  · rintro ⟨y, hy, h⟩
    by_cases e : y = x
    · rw [← e]; exact hy
    · have hne : litSp y ≠ litSp x := fun g => e (litS_inj (hl y hy) hx g)
      simp only [Function.comp] at h
      rw [sameKey_ne hne] at h; cases h
  · intro h
    exact ⟨x, h, WideAt.sameKey_self (litS_key hx)⟩
set_option maxRecDepth 100000 in
theorem zeroUnitS (w : World) : (zeroValue 87).run Tryz.prog w = .ok (.agg #[]) w := by kernel_rfl
/-- The places of the paths of a list, with its name; of all lists. -/
def spotsOf (ds : List Dv) (p : Lp) : List Sp := p.1.2.map fun q => (toD ds q p.1.1, p.1.1)
def spotsL (ds : List Dv) (L : List Lp) : List Sp := L.flatMap (spotsOf ds)
theorem spots_take {ds : List Dv} {L : List Lp} {k : Nat} {p : Lp} (h : L[k]? = some p) : spotsL ds (L.take (k + 1)) = spotsL ds (L.take k) ++ spotsOf ds p := by
  unfold spotsL
  rw [List.take_add_one, h, List.flatMap_append]; simp
theorem spots_take1 {ds : List Dv} {p : Lp} {j : Nat} {q : Bs} (h : p.1.2[j]? = some q) : (spotsOf ds p).take (j + 1) = (spotsOf ds p).take j ++ [(toD ds q p.1.1, p.1.1)] := by
  unfold spotsOf
  rw [List.take_add_one, List.getElem?_map, h]; rfl
theorem toD_len (ds : List Dv) (hd : ∀ d ∈ ds, d.1.length ≤ maxLen ∧ d.2.1.length ≤ maxLen ∧ d.2.2.length ≤ maxLen) {p q : Bs} (hp : p.length ≤ maxLen) : (toD ds p q).length ≤ maxLen := by
  cases h : ds.find? (pathIs p) with
  | none => rw [toD_miss h]; exact hp
  | some x =>
    rw [toD_hit h]
    split
    · exact hp
    · exact (hd x (List.mem_of_find?_eq_some h)).2.1
theorem spots_good {x : Stv} (hf : FitSt x) {l : List Lp} (hl : ∀ p ∈ l, p ∈ x.ls) : ∀ y ∈ spotsL x.ds l, GoodSp y := fun y hy => by
  unfold spotsL spotsOf at hy
  obtain ⟨p, hp, h2⟩ := List.mem_flatMap.1 hy
  obtain ⟨q, hq, rfl⟩ := List.mem_map.1 h2
  have := hf.ls p (hl p hp)
  exact ⟨toD_len x.ds hf.ds (this.2.2 q hq), this.1⟩
end Go.Proofs.YtkcamfcjkjiijaaGreatDoor
namespace Go.Proofs.YtkcamfcjkjiijaaGreatDoor
open Go.RowKit Go.Shelf
def other (nm : Bs) (rp : List Bs) (n : Bs) : Bool := !decide (n = nm) && !decide (n ∈ rp)
/-- Those of all lists whose name has a place. -/
def ownAt (ds : List Dv) (nm : Bs) (rp : List Bs) (L : List Lp) (a : Bs) (l : List Lp) : List Bs := (l.filter fun p => decide ((a, p.1.1) ∈ spotsL ds L) && other nm rp p.1.1).map (·.1.1)
def progOwn (ds : List Dv) (nm : Bs) (rp : List Bs) (L : List Lp) (ats : List Bs) : List Bs := ats.flatMap fun a => ownAt ds nm rp L a L
def refOwn (ds : List Dv) (nm : Bs) (rp ats : List Bs) (l : List Lp) : List Bs := (l.filter fun p => other nm rp p.1.1 && decide (0 < (locL ds p.1.1 p.1.2 ats).length)).map (·.1.1)
theorem ownAt_take {ds : List Dv} {nm : Bs} {rp : List Bs} {L l : List Lp} {a : Bs} {k : Nat} {p : Lp} (h : l[k]? = some p) : ownAt ds nm rp L a (l.take (k + 1)) = ownAt ds nm rp L a (l.take k) ++ (if (decide ((a, p.1.1) ∈ spotsL ds L) && other nm rp p.1.1) = true then [p.1.1] else []) := by
  unfold ownAt
  rw [List.take_add_one, h, List.filter_append, List.map_append]
  congr 1
  by_cases g : (decide ((a, p.1.1) ∈ spotsL ds L) && other nm rp p.1.1) = true <;> simp [g]
theorem ownAt_len (ds : List Dv) (nm : Bs) (rp : List Bs) (L l : List Lp) (a : Bs) : (ownAt ds nm rp L a l).length ≤ l.length := by
  unfold ownAt; rw [List.length_map]; exact List.length_filter_le _ _
theorem progOwn_take {ds : List Dv} {nm : Bs} {rp : List Bs} {L : List Lp} {ats : List Bs} {k : Nat} {a : Bs} (h : ats[k]? = some a) : progOwn ds nm rp L (ats.take (k + 1)) = progOwn ds nm rp L (ats.take k) ++ ownAt ds nm rp L a L := by
  unfold progOwn
  rw [List.take_add_one, h, List.flatMap_append]; simp
theorem progOwn_len (ds : List Dv) (nm : Bs) (rp : List Bs) (L : List Lp) (ats : List Bs) : (progOwn ds nm rp L ats).length ≤ ats.length * L.length := by
  induction ats with
  | nil => simp [progOwn]
  | cons a l ih =>
    unfold progOwn at ih ⊢
    rw [List.flatMap_cons, List.length_append, List.length_cons, Nat.add_mul]
    have := ownAt_len ds nm rp L L a
    omega
theorem refOwn_take {ds : List Dv} {nm : Bs} {rp ats : List Bs} {l : List Lp} {k : Nat} {p : Lp} (h : l[k]? = some p) : refOwn ds nm rp ats (l.take (k + 1)) = refOwn ds nm rp ats (l.take k) ++ (if (other nm rp p.1.1 && decide (0 < (locL ds p.1.1 p.1.2 ats).length)) = true then [p.1.1] else []) := by
  unfold refOwn
  rw [List.take_add_one, h, List.filter_append, List.map_append]
  congr 1
  by_cases g : (other nm rp p.1.1 && decide (0 < (locL ds p.1.1 p.1.2 ats).length)) = true <;> simp [g]
theorem refOwn_len (ds : List Dv) (nm : Bs) (rp ats : List Bs) (l : List Lp) : (refOwn ds nm rp ats l).length ≤ l.length := by
  unfold refOwn; rw [List.length_map]; exact List.length_filter_le _ _
theorem loc_pos {ds : List Dv} {nm : Bs} {ps ats : List Bs} : 0 < (locL ds nm ps ats).length ↔ ∃ q ∈ ps, toD ds q nm ∈ ats := by
  rw [List.length_pos_iff_exists_mem]
  unfold locL
  constructor
  · rintro ⟨q, hq⟩
    rw [List.mem_filter] at hq
    exact ⟨q, hq.1, by simpa using hq.2⟩
  · rintro ⟨q, h1, h2⟩
    exact ⟨q, by rw [List.mem_filter]; exact ⟨h1, by simpa using h2⟩⟩
theorem own_same (ds : List Dv) (nm : Bs) (rp : List Bs) (L : List Lp) (ats : List Bs) : srt (progOwn ds nm rp L ats) = srt (refOwn ds nm rp ats L) := by
  refine rise_eq (srt_rise _) (srt_rise _) (fun x => ?_)
  rw [srt_mem, srt_mem]
  unfold progOwn refOwn ownAt
  constructor
  · intro h
    obtain ⟨a, ha, h⟩ := List.mem_flatMap.1 h
    obtain ⟨p, hp, rfl⟩ := List.mem_map.1 h
    rw [List.mem_filter] at hp
    obtain ⟨hpL, hc⟩ := hp
    rw [Bool.and_eq_true, decide_eq_true_eq] at hc
    obtain ⟨hs, ho⟩ := hc
    unfold spotsL spotsOf at hs
    obtain ⟨q, hq, hs⟩ := List.mem_flatMap.1 hs
    obtain ⟨u, hu, e⟩ := List.mem_map.1 hs
    have e1 : toD ds u q.1.1 = a := congrArg Prod.fst e
    have e2 : q.1.1 = p.1.1 := congrArg Prod.snd e
    refine List.mem_map.2 ⟨q, ?_, e2⟩
    rw [List.mem_filter, Bool.and_eq_true, decide_eq_true_eq]
    exact ⟨hq, by rw [e2]; exact ho, loc_pos.2 ⟨u, hu, by rw [e1]; exact ha⟩⟩
  · intro h
    obtain ⟨p, hp, rfl⟩ := List.mem_map.1 h
    rw [List.mem_filter, Bool.and_eq_true, decide_eq_true_eq] at hp
    obtain ⟨hpL, ho, h0⟩ := hp
    obtain ⟨u, hu, hat⟩ := loc_pos.1 h0
    refine List.mem_flatMap.2 ⟨_, hat, List.mem_map.2 ⟨p, ?_, rfl⟩⟩
    rw [List.mem_filter, Bool.and_eq_true, decide_eq_true_eq]
    refine ⟨hpL, ?_, ho⟩
    unfold spotsL spotsOf
    exact List.mem_flatMap.2 ⟨p, hpL, List.mem_map.2 ⟨u, hu, rfl⟩⟩
end Go.Proofs.YtkcamfcjkjiijaaGreatDoor
