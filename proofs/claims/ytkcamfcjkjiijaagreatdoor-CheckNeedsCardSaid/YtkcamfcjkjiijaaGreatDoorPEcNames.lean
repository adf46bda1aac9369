/-
  check.namesOf: the names of the records that a function says yes to; nothing old turns.
-/
import Derived.Test.YtkcamfcjkjiijaaGreatDoorPUADrop
import Derived.Test.YtkcamfcjkjiijaaGreatDoorPOdMath
import Derived.Deep.RegionHeld3
import Derived.Deep.AppendLies
import Derived.Deep.RegionLaw
import Derived.Test.YtkcamfcjkjiijaaGreatDoorPEpHold
import Derived.Test.YtkcamfcjkjiijaaGreatDoorPTLose2
import Derived.Test.YtkcamfcjkjiijaaGreatDoorPGParseF
namespace Go.Proofs.YtkcamfcjkjiijaaGreatDoor
open Go.RowKit
def slcOfU : Value → SlcUa
  | .slice a n c => (a, n, c)
  | _ => (none, 0, 0)
def shU (x : Uv) : OvUa := (x.nm, ⟨x.vr.toArray⟩, x.st, slcOfU x.dv, slcOfU x.cv, slcOfU x.rv, slcOfU x.fv, slcOfU x.pv, slcOfU x.av)
theorem slc_isU {v : Value} (h : ∃ a n c, v = .slice a n c) : Value.slice (slcOfU v).1 (slcOfU v).2.1 (slcOfU v).2.2 = v := by
  obtain ⟨a, n, c, rfl⟩ := h; rfl
theorem cells_shU {w : World} {x : Uv} (h : InU w x) : cellsOUa (shU x) = cellsU x := by
  show [_, _, _, Value.slice (slcOfU x.dv).1 (slcOfU x.dv).2.1 (slcOfU x.dv).2.2, Value.slice (slcOfU x.cv).1 (slcOfU x.cv).2.1 (slcOfU x.cv).2.2, Value.slice (slcOfU x.rv).1 (slcOfU x.rv).2.1 (slcOfU x.rv).2.2, Value.slice (slcOfU x.fv).1 (slcOfU x.fv).2.1 (slcOfU x.fv).2.2, Value.slice (slcOfU x.pv).1 (slcOfU x.pv).2.1 (slcOfU x.pv).2.2, Value.slice (slcOfU x.av).1 (slcOfU x.av).2.1 (slcOfU x.av).2.2] = _
  rw [slc_isU (formU3 h), slc_isU (formU4 h), slc_isU (formU5 h), slc_isU (formU6 h), slc_isU (formU7 h), slc_isU (formU8 h)]; rfl
theorem map_shU {w : World} {l : List Uv} (h : ∀ x ∈ l, InU w x) : (l.map shU).map cellsOUa = l.map cellsU := by
  rw [List.map_map]; exact List.map_congr_left (fun x hx => cells_shU (h x hx))
theorem hold_shU {w : World} {v : Value} {l : List Uv} (h : HoldU w v l) : HoldOUa w v (l.map shU) := by
  unfold HoldOUa; rw [map_shU h.2]; exact h.1
def dropU (l : List Uv) (p : Bs) : List Uv := l.filter (fun y => !decide (y.nm = p))
theorem drop_shU (l : List Uv) (p : Bs) : dropOUa (l.map shU) p = (dropU l p).map shU := by
  unfold dropOUa dropU
  rw [List.filter_map]; rfl
theorem dropU_mem {l : List Uv} {p : Bs} {y : Uv} (h : y ∈ dropU l p) : y ∈ l := (List.mem_filter.1 h).1
theorem dropU_len (l : List Uv) (p : Bs) : (dropU l p).length ≤ l.length := List.length_filter_le _ _
end Go.Proofs.YtkcamfcjkjiijaaGreatDoor
namespace Go.Proofs.YtkcamfcjkjiijaaGreatDoor
open Go.RowKit Go.Shelf
theorem there_take {l : List Uv} {k : Nat} {x : Uv} (h : l[k]? = some x) : thereU (l.take (k + 1)) = thereU (l.take k) ++ (if isThere x.st = true then [relU x] else []) := by
  unfold thereU
  rw [List.take_add_one, h, List.filter_append, List.map_append]
  congr 1
  by_cases g : isThere x.st = true <;> simp [g]
theorem there_len (l : List Uv) : (thereU l).length ≤ l.length := by
  unfold thereU; rw [List.length_map]; exact List.length_filter_le _ _
set_option maxRecDepth 100000 in
set_option maxHeartbeats 8000000 in
theorem there_any (v : Value) (l : List Uv) (hl : l.length ≤ 90000) (w : World) (h : HoldU w v l) : Calls Tryz.prog 11 #[v] w fun e w' => ∃ r, e = .returned r ∧ OwnQ w' w.heap.size r (thereU l) ∧ Below w.heap.size w w' := by
  have HIN := Lib.hid h.2
  obtain ⟨a, c, b, o, rfl, hc, ha, hcell⟩ := h.parts
  obtain ⟨i0, hi, hz0, hz1, hz2'⟩ := info_parts infoQ
  have HC := Lib.hid hcell
  obtain ⟨n, hN⟩ : ∃ n, l.length = n := ⟨_, rfl⟩
  rw [hN] at hc ha hl ⊢
  have HN := Lib.hid hN
  clear hcell hN h
  go_enter Tryz.func11, Tryz.ntmps11
  go_wp2
  go_loopw [3, 8] (fun u i wr => ∃ (k : Nat), k ≤ n ∧ i = .int .i64 k ∧ Hid (OwnQ wr w.heap.size u (thereU (l.take k))) ∧ Hid (Below w.heap.size w wr)) (fun _ i _ => n - (intOf i).toNat)
  case atStart => exact ⟨0, by omega, rfl, Lib.hid (by rw [List.take_zero]; exact OwnV.nil _ _ _ _), Lib.hid (Below.refl _ _)⟩
  case round =>
    obtain ⟨k, hk, rfl, HO, HB⟩ := hrel
    have hsz := HB.out.size
    by_cases hlt : k < n
    · obtain ⟨rfl, hbw⟩ := ha (by omega)
      obtain ⟨x, hx⟩ : ∃ x, l[k]? = some x := ⟨_, List.getElem?_eq_getElem (by rw [HN.out]; exact hlt)⟩
      have hm := List.mem_of_getElem? hx
      have htk := there_take hx
      have hlen : (thereU (l.take k)).length ≤ k := Nat.le_trans (there_len _) (by rw [List.length_take]; omega)
      obtain ⟨x0, x1, x2, x3, x4, x5, x6, x7, x8⟩ := HC.out k _ hx
      rw [← HB.out.cell (p := ⟨b, o + k * 9, none⟩) hbw] at x0
      rw [← HB.out.cell (p := ⟨b, o + k * 9 + 1, none⟩) hbw] at x1
      rw [← HB.out.cell (p := ⟨b, o + k * 9 + 2, none⟩) hbw] at x2
      rw [← HB.out.cell (p := ⟨b, o + k * 9 + 3, none⟩) hbw] at x3
      rw [← HB.out.cell (p := ⟨b, o + k * 9 + 4, none⟩) hbw] at x4
      rw [← HB.out.cell (p := ⟨b, o + k * 9 + 5, none⟩) hbw] at x5
      rw [← HB.out.cell (p := ⟨b, o + k * 9 + 6, none⟩) hbw] at x6
      rw [← HB.out.cell (p := ⟨b, o + k * 9 + 7, none⟩) hbw] at x7
      rw [← HB.out.cell (p := ⟨b, o + k * 9 + 8, none⟩) hbw] at x8
      obtain ⟨a3, n3, m3, q3⟩ := formU3 (HIN.out x hm)
      obtain ⟨a4, n4, m4, q4⟩ := formU4 (HIN.out x hm)
      obtain ⟨a5, n5, m5, q5⟩ := formU5 (HIN.out x hm)
      obtain ⟨a6, n6, m6, q6⟩ := formU6 (HIN.out x hm)
      obtain ⟨a7, n7, m7, q7⟩ := formU7 (HIN.out x hm)
      obtain ⟨a8, n8, m8, q8⟩ := formU8 (HIN.out x hm)
      simp only [q3, q4, q5, q6, q7, q8] at x3 x4 x5 x6 x7 x8
      obtain ⟨y0, y1, y2, y3, y4, y5, y6, y7, y8⟩ := boxV9 wr (.string (⟨x.nm.toArray⟩ : ByteArray)) (.string (⟨x.vr.toArray⟩ : ByteArray)) (.int .i64 x.st) (.slice a3 n3 m3) (.slice a4 n4 m4) (.slice a5 n5 m5) (.slice a6 n6 m6) (.slice a7 n7 m7) (.slice a8 n8 m8) 71
      have B2 := HB.out.alloc hsz (.cells #[.string (⟨x.nm.toArray⟩ : ByteArray), .string (⟨x.vr.toArray⟩ : ByteArray), .int .i64 x.st, .slice a3 n3 m3, .slice a4 n4 m4, .slice a5 n5 m5, .slice a6 n6 m6, .slice a7 n7 m7, .slice a8 n8 m8] 71)
      have b2 := (Below.refl wr.heap.size wr).alloc (Nat.le_refl _) (.cells #[.string (⟨x.nm.toArray⟩ : ByteArray), .string (⟨x.vr.toArray⟩ : ByteArray), .int .i64 x.st, .slice a3 n3 m3, .slice a4 n4 m4, .slice a5 n5 m5, .slice a6 n6 m6, .slice a7 n7 m7, .slice a8 n8 m8] 71)
      have HO2 := Lib.hid (OwnV.on HO.out b2)
      have HXX : Hid ((⟨x.nm.toArray⟩ : ByteArray).data.toList = x.nm ∧ (⟨x.vr.toArray⟩ : ByteArray).data.toList = x.vr) := Lib.hid ⟨by simp, by simp⟩
      have HR : Hid (relU x = (x.nm, [], x.vr)) := Lib.hid rfl
      obtain ⟨T, hT⟩ : ∃ T, thereU (l.take k) = T := ⟨_, rfl⟩
      rw [hT] at htk hlen HO2
      have HTK := Lib.hid htk
      obtain ⟨z, hz⟩ : ∃ z, x.st = z := ⟨_, rfl⟩
      rw [hz] at x2 y0 y1 y2 y3 y4 y5 y6 y7 y8 B2 HO2 HTK
      generalize (⟨x.nm.toArray⟩ : ByteArray) = X0 at *
      generalize (⟨x.vr.toArray⟩ : ByteArray) = X1 at *
      have HB2 := Lib.hid B2
      clear hx hm hT htk HO q3 q4 q5 q6 q7 q8 B2 b2 hz
      by_cases hz : isThere z = true
      · have HT2 : Hid (thereU (l.take (k + 1)) = T ++ [(x.nm, [], x.vr)]) := Lib.hid (by rw [HTK.out, if_pos hz])
        have hz2 : (z == 7) = true ∨ ((z == 7) = false ∧ (z == 6) = true) := by
          unfold isThere at hz
          rw [Bool.or_eq_true, decide_eq_true_eq, decide_eq_true_eq] at hz
          rcases hz with g | g
          · exact .inl (by rw [g]; rfl)
          · exact .inr ⟨by rw [g]; rfl, by rw [g]; rfl⟩
        have HL3 : Hid ((T ++ [(x.nm, ([] : Bs), x.vr)]).length ≤ 90000) := Lib.hid (by simp; omega)
        clear HTK hz
        rcases hz2 with g7 | ⟨g7, g6⟩
        all_goals
          go_wp2_with (at_builtin; refine wpList_append_own _ rfl _ _ 32 rfl w.heap.size 75 i0 _ 3 48 Tryz.underlying32 hi hz0 hz1 hz2' rfl (by decide) _ _ _ rfl (World.ownsRow.alloc HO2.out.2 _) ⟨wr.heap.size + 1, 0, none⟩ 1 1 [.string X0, .string ⟨#[]⟩, .string X1] rfl rfl ?c1 ?c2 ?c3 ?c4 ?c5 ?_)
          case c2 => exact ⟨rfl, rfl, rfl⟩
          case c3 => unfold maxLen; omega
          case c4 => omega
          case c5 => omega
          intro v' w4 hown' hgrow _
          have HO4 : Hid (OwnQ w4 w.heap.size v' (T ++ [(x.nm, [], x.vr)])) := Lib.hid (OwnQ.app (x := (x.nm, [], x.vr)) HXX.out.1 rfl HXX.out.2 (by simpa using hown'))
          have HB4 : Hid (Below w.heap.size w w4) := Lib.hid (OwnV.below HB2.out HO2.out hgrow (Nat.le_refl _) HB2.out.size)
          have HO5 : Hid (OwnQ w4 w.heap.size v' (thereU (l.take (k + 1)))) := Lib.hid (by rw [HT2.out]; exact HO4.out)
          clear hown' hgrow
          go_wp2
          go_roundw
          case rel => exact ⟨k + 1, by omega, by go_num, HO5, HB4⟩
          case measure => simp [intOf]; omega
      · have HT2 : Hid (thereU (l.take (k + 1)) = T) := Lib.hid (by rw [HTK.out, if_neg hz, List.append_nil])
        have g7 : (z == 7) = false := by
          unfold isThere at hz
          rw [Bool.not_eq_true, Bool.or_eq_false_iff, decide_eq_false_iff_not, decide_eq_false_iff_not] at hz
          simpa using hz.1
        have g6 : (z == 6) = false := by
          unfold isThere at hz
          rw [Bool.not_eq_true, Bool.or_eq_false_iff, decide_eq_false_iff_not, decide_eq_false_iff_not] at hz
          simpa using hz.2
        have HO5 := HO2
        rw [← HT2.out] at HO5
        clear HTK hz HO2
        go_wp2
        go_roundw
        case rel => exact ⟨k + 1, by omega, by go_num, HO5, HB2⟩
        case measure => simp [intOf]; omega
    · obtain rfl : k = n := by omega
      have HFE : Hid (thereU (l.take k) = thereU l) := Lib.hid (by rw [List.take_of_length_le (by rw [HN.out]; omega)])
      clear hlt
      go_wp2
      go_ret
      exact ⟨_, rfl, by have := HO.out; rw [HFE.out] at this; exact this, HB.out⟩
end Go.Proofs.YtkcamfcjkjiijaaGreatDoor
namespace Go.Proofs.YtkcamfcjkjiijaaGreatDoor
open Go.RowKit Go.Shelf
def missL (rs : List Uv) (dp : List Gv) : List Nat := lackL (thereU rs) 0 (fsts dp)
structure InS7 (w : World) (x : Stv) : Prop where
  rs : HoldU w x.rv x.rs
  ov : ∃ a n c, x.ov = .slice a n c
  av : ∃ a n c, x.av = .slice a n c
  iv : ∃ a n c, x.iv = .slice a n c
  fv : ∃ a n c, x.fv = .slice a n c
  dv : ∃ a n c, x.dv = .slice a n c
  lv : ∃ a n c, x.lv = .slice a n c
theorem InS7.on {w w' : World} {x : Stv} (h : InS7 w x) (hb : Below w.heap.size w w') : InS7 w' x := ⟨h.rs.on hb, h.ov, h.av, h.iv, h.fv, h.dv, h.lv⟩
set_option maxRecDepth 100000 in
set_option maxHeartbeats 8000000 in
theorem missing_any (x : Stv) (hn : x.rs.length ≤ 90000) (hs : SmallQ (thereU x.rs)) (v : Value) (l : List Gv) (hl : l.length ≤ 500) (hg : SmallG l) (w : World) (hx : InS7 w x) (h : HoldGs w v l) (hL : LaidV w) :
    Calls Tryz.prog 14 #[agS x, v] w fun e w' => ∃ r, e = .returned r ∧ OwnIn w' w.heap.size r (missL x.rs l) ∧ Below w.heap.size w w' := by
  have B0 := (Below.refl w.heap.size w).alloc (Nat.le_refl _) (.cells #[x.rv, x.dv, x.ov, x.av, x.iv, x.fv, x.lv] 30)
  have TH := there_any x.rv x.rs hn _ (hx.rs.on B0)
  have HG := Lib.hid h
  have HLV := Lib.hid hL
  have HLEN : (thereU x.rs).length ≤ 90000 := Nat.le_trans (there_len _) hn
  have LA : Hid (∀ r W, Below w.heap.size w W → OwnQ W w.heap.size r (thereU x.rs) → Calls Tryz.prog 37 #[v, r] W fun e w' => ∃ r', e = .returned r' ∧ OwnIn w' w.heap.size r' (missL x.rs l) ∧ Below w.heap.size w w') := Lib.hid (fun r W hb ho => (lacks_any v r l hl hg (thereU x.rs) HLEN hs W (HG.out.on hb) ho.holds (HLV.out.on hb)).mono (fun e w' h => by
    obtain ⟨r', g1, g2, g3⟩ := h
    exact ⟨r', g1, g2.mono hb.size, hb.trans (g3.mono hb.size)⟩))
  obtain ⟨⟨⟨ra, rc, -, -, hrv, -⟩, -⟩, ⟨oa, on, oc, hov⟩, ⟨aa, an, ac, hav⟩, ⟨ia, im, ic, hiv⟩, ⟨fa, fn, fc, hfv⟩, ⟨da, dn, dc, hdv⟩, ⟨la, ln, lc, hlv⟩⟩ := hx
  obtain ⟨ga, gc, gb, go, hgv, -⟩ := h.1
  obtain ⟨RES, hRES⟩ : ∃ q, missL x.rs l = q := ⟨_, rfl⟩
  simp only [hRES] at LA ⊢
  obtain ⟨TL, hTL⟩ : ∃ q, thereU x.rs = q := ⟨_, rfl⟩
  simp only [hTL] at LA TH
  clear hRES hTL HG HLV h hL HLEN hn hs hl hg
  obtain ⟨rs, ds, ls, rv, dv, ov, av, iv, fv, lv⟩ := x
  unfold agS
  dsimp only at *
  subst hrv hov hav hiv hfv hdv hlv hgv
  simp only [List.length_map] at *
  generalize rs.length = rn at *
  generalize l.length = gn at *
  simp only [World.size_alloc] at TH
  go_enter Tryz.func14, Tryz.ntmps14
  go_wp2_with (first
    | (go_at_call 11; (with_reducible refine TH.mono ?_); rintro e w1 ⟨r, rfl, h1, h2⟩; have HB := Lib.hid (B0.trans (h2.mono (by simp))); have LC := LA.out r w1 HB.out (h1.mono (by omega)); clear h1 h2 TH)
    | (go_at_call 37; (with_reducible refine LC.mono ?_); rintro e w2 ⟨r2, rfl, h1, h2⟩; have HO2 := Lib.hid h1; have HB2 := Lib.hid h2; clear h1 h2 LC))
  first | (go_ret; exact ⟨_, rfl, HO2.out, HB2.out⟩) | exact ⟨_, rfl, HO2.out, HB2.out⟩
end Go.Proofs.YtkcamfcjkjiijaaGreatDoor
namespace Go.Proofs.YtkcamfcjkjiijaaGreatDoor
open Go.RowKit Go.Shelf
def namesU (l : List Uv) (p : Uv → Bool) : List Bs := (l.filter p).map fun x => x.nm
theorem names_take {l : List Uv} {p : Uv → Bool} {k : Nat} {x : Uv} (h : l[k]? = some x) : namesU (l.take (k + 1)) p = namesU (l.take k) p ++ (if p x = true then [x.nm] else []) := by
  unfold namesU
  rw [List.take_add_one, h, List.filter_append, List.map_append]
  congr 1
  by_cases g : p x = true <;> simp [g]
theorem names_len (l : List Uv) (p : Uv → Bool) : (namesU l p).length ≤ l.length := by
  unfold namesU; rw [List.length_map]; exact List.length_filter_le _ _
def KeepU (l : List Uv) (g : Nat) (lb : Array Value) (p : Uv → Bool) (w : World) : Prop :=
  ∀ W x, x ∈ l → Below w.heap.size w W → Calls Tryz.prog g (#[agZU x] ++ lb) W fun e w' => e = .returned (.bool (p x)) ∧ Below W.heap.size W w'
set_option maxRecDepth 100000 in
set_option maxHeartbeats 8000000 in
theorem namesOf_any (g : Nat) (lb : Array Value) (eg : ∀ args w, (callFunc g args).run Tryz.prog w = .ok (.enter g args) w) (p : Uv → Bool) (v : Value) (l : List Uv) (hl : l.length ≤ 90000) (w : World) (h : HoldU w v l) (hp : KeepU l g lb p w) :
    Calls Tryz.prog 40 #[v, .func (.func g) #[] lb] w fun e w' => ∃ r, e = .returned r ∧ OwnT w' w.heap.size r (namesU l p) ∧ Below w.heap.size w w' := by
  have HIN := Lib.hid h.2
  obtain ⟨a, c, b, o, rfl, hc, ha, hcell⟩ := h.parts
  obtain ⟨i0, hi, hz0, hz1, hz2'⟩ := info_parts infoT
  have HC := Lib.hid hcell
  have HP := Lib.hid hp
  obtain ⟨n, hN⟩ : ∃ n, l.length = n := ⟨_, rfl⟩
  rw [hN] at hc ha hl ⊢
  have HN := Lib.hid hN
  clear hcell hN h hp
  go_enter Tryz.func40, Tryz.ntmps40
  go_wp2
  go_loopw [5, 10] (fun u i wr => ∃ (k : Nat), k ≤ n ∧ i = .int .i64 k ∧ Hid (OwnT wr w.heap.size u (namesU (l.take k) p)) ∧ Hid (Below w.heap.size w wr)) (fun _ i _ => n - (intOf i).toNat)
  case atStart => exact ⟨0, by omega, rfl, Lib.hid (by rw [List.take_zero]; exact World.ownsRow_nil _ _ _ _), Lib.hid (Below.refl _ _)⟩
  case round =>
    obtain ⟨k, hk, rfl, HO, HB⟩ := hrel
    have hsz := HB.out.size
    by_cases hlt : k < n
    · obtain ⟨rfl, hbw⟩ := ha (by omega)
      obtain ⟨x, hx⟩ : ∃ x, l[k]? = some x := ⟨_, List.getElem?_eq_getElem (by rw [HN.out]; exact hlt)⟩
      have hm := List.mem_of_getElem? hx
      have htk := names_take (p := p) hx
      have hlen : (namesU (l.take k) p).length ≤ k := Nat.le_trans (names_len _ _) (by rw [List.length_take]; omega)
      obtain ⟨x0, x1, x2, x3, x4, x5, x6, x7, x8⟩ := HC.out k _ hx
      rw [← HB.out.cell (p := ⟨b, o + k * 9, none⟩) hbw] at x0
      rw [← HB.out.cell (p := ⟨b, o + k * 9 + 1, none⟩) hbw] at x1
      rw [← HB.out.cell (p := ⟨b, o + k * 9 + 2, none⟩) hbw] at x2
      rw [← HB.out.cell (p := ⟨b, o + k * 9 + 3, none⟩) hbw] at x3
      rw [← HB.out.cell (p := ⟨b, o + k * 9 + 4, none⟩) hbw] at x4
      rw [← HB.out.cell (p := ⟨b, o + k * 9 + 5, none⟩) hbw] at x5
      rw [← HB.out.cell (p := ⟨b, o + k * 9 + 6, none⟩) hbw] at x6
      rw [← HB.out.cell (p := ⟨b, o + k * 9 + 7, none⟩) hbw] at x7
      rw [← HB.out.cell (p := ⟨b, o + k * 9 + 8, none⟩) hbw] at x8
      have B2 := HB.out.alloc hsz (.cells #[.string (⟨x.nm.toArray⟩ : ByteArray), .string (⟨x.vr.toArray⟩ : ByteArray), .int .i64 x.st, x.dv, x.cv, x.rv, x.fv, x.pv, x.av] 71)
      have b2 := (Below.refl wr.heap.size wr).alloc (Nat.le_refl _) (.cells #[.string (⟨x.nm.toArray⟩ : ByteArray), .string (⟨x.vr.toArray⟩ : ByteArray), .int .i64 x.st, x.dv, x.cv, x.rv, x.fv, x.pv, x.av] 71)
      have hcall := HP.out _ x hm B2
      obtain ⟨y0, y1, y2, y3, y4, y5, y6, y7, y8⟩ := boxV9 wr (.string (⟨x.nm.toArray⟩ : ByteArray)) (.string (⟨x.vr.toArray⟩ : ByteArray)) (.int .i64 x.st) x.dv x.cv x.rv x.fv x.pv x.av 71
      obtain ⟨a3, n3, m3, q3⟩ := formU3 (HIN.out x hm)
      obtain ⟨a4, n4, m4, q4⟩ := formU4 (HIN.out x hm)
      obtain ⟨a5, n5, m5, q5⟩ := formU5 (HIN.out x hm)
      obtain ⟨a6, n6, m6, q6⟩ := formU6 (HIN.out x hm)
      obtain ⟨a7, n7, m7, q7⟩ := formU7 (HIN.out x hm)
      obtain ⟨a8, n8, m8, q8⟩ := formU8 (HIN.out x hm)
      unfold agZU at hcall
      simp only [q3, q4, q5, q6, q7, q8] at x3 x4 x5 x6 x7 x8 y0 hcall B2 b2
      have HXX : Hid ((⟨x.nm.toArray⟩ : ByteArray).data.toList = x.nm) := Lib.hid (by simp)
      have HO1 := Lib.hid (HO.out)
      obtain ⟨T, hT⟩ : ∃ T, namesU (l.take k) p = T := ⟨_, rfl⟩
      rw [hT] at htk hlen HO1
      have HTK := Lib.hid htk
      obtain ⟨z, hz⟩ : ∃ z, x.st = z := ⟨_, rfl⟩
      rw [hz] at x2 y0 hcall B2 b2
      obtain ⟨q, hq⟩ : ∃ q, p x = q := ⟨_, rfl⟩
      rw [hq] at hcall HTK
      generalize (⟨x.nm.toArray⟩ : ByteArray) = X0 at *
      generalize (⟨x.vr.toArray⟩ : ByteArray) = X1 at *
      have HB2 := Lib.hid B2
      have Hb2 := Lib.hid b2
      have HY := Lib.hid y0
      have HCA := Lib.hid hcall
      clear hx hm hT htk HO q3 q4 q5 q6 q7 q8 B2 b2 hz hq y0 y1 y2 y3 y4 y5 y6 y7 y8 hcall
      have hcall := HCA.out
      cases q
      · have HT2 : Hid (namesU (l.take (k + 1)) p = T) := Lib.hid (by rw [HTK.out]; simp)
        go_wp2_with (go_at_fn g; refine hcall.mono ?_; rintro e w1 ⟨rfl, hb1⟩; have HB1 := Lib.hid (HB2.out.trans (hb1.mono HB2.out.size)); have HO1b := Lib.hid ((HO1.out.on Hb2.out).on hb1); clear hb1 hcall HCA)
        go_roundw
        case rel => exact ⟨k + 1, by omega, by go_num, by rw [HT2.out]; exact HO1b, HB1⟩
        case measure => simp [intOf]; omega
      · have HT2 : Hid (namesU (l.take (k + 1)) p = T ++ [x.nm]) := Lib.hid (by rw [HTK.out]; simp)
        go_wp2_with (first
          | (go_at_fn g; refine hcall.mono ?_; rintro e w1 ⟨rfl, hb1⟩; have HB1 := Lib.hid (HB2.out.trans (hb1.mono HB2.out.size)); have HO1b := Lib.hid ((HO1.out.on Hb2.out).on hb1); have hsz1 := HB1.out.size; have y0 := (hb1.cell (p := ⟨wr.heap.size, 0, none⟩) (by simp)).trans HY.out; clear hb1 hcall HCA)
          | (at_builtin; refine wpList_append_own _ rfl _ _ 33 rfl w.heap.size 9 i0 _ 1 16 Tryz.underlying33 hi hz0 hz1 hz2' rfl (by decide) _ _ _ rfl (World.ownsRow.alloc HO1b.out _) ⟨w1.heap.size, 0, none⟩ 1 1 [.string X0] rfl rfl ?c1 ?c2 ?c3 ?c4 ?c5 ?_))
        case c1 =>
          intro j u hj
          match j, hj with
          | 0, hj => simp at hj; subst hj; simp [Addr.add]
        case c2 => intro u hu; simp at hu; subst hu; rfl
        case c3 => unfold maxLen; omega
        case c4 => omega
        case c5 => simp; omega
        intro v' w4 hown' hgrow _
        have HO4 : Hid (OwnT w4 w.heap.size v' (namesU (l.take (k + 1)) p)) := Lib.hid (by rw [HT2.out]; exact OwnT.app HXX.out (by simpa using hown'))
        have HB4 : Hid (Below w.heap.size w w4) := Lib.hid (OwnT.belowA HB1.out HO1b.out hgrow (Nat.le_refl _) hsz1)
        clear hown' hgrow
        go_wp2
        go_roundw
        case rel => exact ⟨k + 1, by omega, by go_num, HO4, HB4⟩
        case measure => simp [intOf]; omega
    · obtain rfl : k = n := by omega
      have HFE : Hid (namesU (l.take k) p = namesU l p) := Lib.hid (by rw [List.take_of_length_le (by rw [HN.out]; omega)])
      clear hlt
      go_wp2
      go_ret
      exact ⟨_, rfl, by have := HO.out; rw [HFE.out] at this; exact this, HB.out⟩
end Go.Proofs.YtkcamfcjkjiijaaGreatDoor
