/-
  check.Taken: whether something of another name is at a place; nothing old turns.
-/
import Derived.Test.YtkcamfcjkjiijaaGreatDoorPEcOwnM
namespace Go.Proofs.YtkcamfcjkjiijaaGreatDoor
open Go.RowKit Go.Shelf
def takB (ds : List Dv) (ats but : Bs) (p : Lp) : Bool := !decide (p.1.1 = but) && decide (0 < (locL ds p.1.1 p.1.2 [ats]).length)
set_option maxRecDepth 100000 in
set_option maxHeartbeats 8000000 in
theorem taken1_any (x : Stv) (hd : x.ds.length ≤ 90000) (p : Lp) (hp : p.1.2.length ≤ 90000) (ats but : ByteArray) (A B C : Nat) (W : World) (hA : W.cell? ⟨A, 0, none⟩ = some (.string but)) (hB : Cell7 B W x) (hC : W.cell? ⟨C, 0, none⟩ = some (.string ats)) (hx : InSt W x) (hi : HoldT W p.2 p.1.2) :
    Calls Tryz.prog 48 #[.agg #[.string (⟨p.1.1.toArray⟩ : ByteArray), p.2], .pointer (some ⟨A, 0, none⟩), .pointer (some ⟨B, 0, none⟩), .pointer (some ⟨C, 0, none⟩)] W fun e w' => e = .returned (.bool (takB x.ds ats.data.toList but.data.toList p)) ∧ Below W.heap.size W w' := by
  have b1 := (Below.refl W.heap.size W).alloc (Nat.le_refl _) (.cells #[.string (⟨p.1.1.toArray⟩ : ByteArray), p.2] 63)
  obtain ⟨n0, n1⟩ := boxV2U W (.string (⟨p.1.1.toArray⟩ : ByteArray)) p.2 63
  obtain ⟨w1, hw1⟩ : ∃ w1, W.alloc (.cells #[.string (⟨p.1.1.toArray⟩ : ByteArray), p.2] 63) = w1 := ⟨_, rfl⟩
  rw [hw1] at b1 n0 n1
  have A1 := (b1.cell (World.block_lt_of_cell? W _ hA)).trans hA
  have C1 := (b1.cell (World.block_lt_of_cell? W _ hC)).trans hC
  obtain ⟨B0, B1, B2, B3, B4, B5, B6⟩ := hB.on b1
  have b2 := b1.alloc b1.size (.cells #[.string ats] 9)
  have HLOC : Hid (Calls Tryz.prog 49 #[agS x, .agg #[.string (⟨p.1.1.toArray⟩ : ByteArray), p.2], .slice (some ⟨w1.heap.size, 0, none⟩) 1 1] (w1.alloc (.cells #[.string ats] 9)) fun e w' => (∃ a c, e = .returned (.slice a (locL x.ds p.1.1 p.1.2 [ats.data.toList]).length c)) ∧ Below W.heap.size W w') := Lib.hid ((located_any x hd (⟨p.1.1.toArray⟩ : ByteArray) p.2 p.1.2 hp (.slice (some ⟨w1.heap.size, 0, none⟩) 1 1) [ats.data.toList] (by simp) (w1.alloc (.cells #[.string ats] 9)) (hx.on b2) (hi.on b2) ⟨some ⟨w1.heap.size, 0, none⟩, 1, w1.heap.size, 0, rfl, Nat.le_refl _, fun _ => ⟨rfl, by simp⟩, fun j l hj => by
      match j, hj with
      | 0, hj => cases hj; rw [show 0 + 0 = 0 from rfl, World.cell?_alloc_new]; rfl
      | j + 1, hj => simp at hj⟩).mono (fun e w' h => by
    obtain ⟨r, g1, g2, g3⟩ := h
    rw [show (⟨p.1.1.toArray⟩ : ByteArray).data.toList = p.1.1 from by simp] at g2
    obtain ⟨a, c, -, -, e2, -⟩ := g2.holds
    exact ⟨⟨a, c, by rw [g1, e2]⟩, b2.trans (g3.mono b2.size)⟩))
  obtain ⟨⟨⟨ra, rc, -, -, hrv, -⟩, -⟩, ⟨oa, on, oc, hov⟩, ⟨aa, an, ac, hav⟩, ⟨ia, im, ic, hiv⟩, ⟨fa, fn, fc, hfv⟩, ⟨da, dn, dc, hdv⟩, ⟨la, ln, lc, hlv⟩⟩ := inS7_of hx
  obtain ⟨pa, pc, -, -, hpv, -⟩ := hi
  have hq : takB x.ds ats.data.toList but.data.toList p = (!decide (p.1.1 = but.data.toList) && decide (0 < (locL x.ds p.1.1 p.1.2 [ats.data.toList]).length)) := rfl
  rw [hq]
  have he := eqT (⟨p.1.1.toArray⟩ : ByteArray) but
  rw [show (⟨p.1.1.toArray⟩ : ByteArray).data.toList = p.1.1 from by simp] at he
  obtain ⟨z, hz⟩ : ∃ z, decide (p.1.1 = but.data.toList) = z := ⟨_, rfl⟩
  rw [hz] at he ⊢
  generalize (locL x.ds p.1.1 p.1.2 [ats.data.toList]).length = m at *
  unfold agS at HLOC
  simp only [hrv, hov, hav, hiv, hfv, hdv, hlv, hpv, List.length_map] at *
  generalize x.rs.length = rn at *
  generalize (⟨p.1.1.toArray⟩ : ByteArray) = X at *
  have HB1 := Lib.hid b1
  clear hrv hov hav hiv hfv hdv hlv hpv hq hA hB hC hx hd hp b2 b1 hz
  cases z
  · go_enter Tryz.func48, Tryz.ntmps48
    go_wp2_with (go_at_call 49; (with_reducible refine HLOC.out.mono ?_); rintro e w4 ⟨⟨a4, c4, rfl⟩, hb⟩; have HB4 := Lib.hid hb; clear hb)
    go_ret
    exact ⟨by simp, HB4.out⟩
  · go_enter Tryz.func48, Tryz.ntmps48
    go_wp2
    go_ret
    exact ⟨by simp, HB1.out⟩
end Go.Proofs.YtkcamfcjkjiijaaGreatDoor
namespace Go.Proofs.YtkcamfcjkjiijaaGreatDoor
open Go.RowKit Go.Shelf
def PredLq (l : List Lp) (g : Nat) (lb : Array Value) (p : Lp → Bool) (w : World) : Prop :=
  ∀ W x, x ∈ l → Below w.heap.size w W → Calls Tryz.prog g (#[.agg #[.string (⟨x.1.1.toArray⟩ : ByteArray), x.2]] ++ lb) W fun e w' => e = .returned (.bool (p x)) ∧ Below W.heap.size W w'
def idxLq (l : List Lp) (p : Lp → Bool) : Int := match l.findIdx? p with
  | some k => (k : Int)
  | none => -1
theorem idxLq_hit {l : List Lp} {p : Lp → Bool} {k : Nat} {x : Lp} (hx : l[k]? = some x) (hp : p x = true) (hb : ∀ (j : Nat) y, j < k → l[j]? = some y → p y = false) : l.findIdx? p = some k := by
  rw [List.findIdx?_eq_some_iff_getElem]
  obtain ⟨hk, e⟩ := List.getElem?_eq_some_iff.1 hx
  exact ⟨hk, by rw [e]; exact hp, fun j hj => by rw [hb j _ hj (List.getElem?_eq_getElem (by omega))]; simp⟩
theorem idxLq_miss {l : List Lp} {p : Lp → Bool} (hb : ∀ (j : Nat) y, l[j]? = some y → p y = false) : l.findIdx? p = none := by
  rw [List.findIdx?_eq_none_iff]
  intro y hy
  obtain ⟨j, hj⟩ := List.mem_iff_getElem?.1 hy
  exact hb j y hj
set_option maxRecDepth 100000 in
set_option maxHeartbeats 4000000 in
theorem idxLq_any (g : Nat) (lb : Array Value) (eg : ∀ args w, (callFunc g args).run Tryz.prog w = .ok (.enter g args) w) (p : Lp → Bool) (v : Value) (l : List Lp) (hl : l.length ≤ 90000) (w : World) (h : HoldL w v l) (hp : PredLq l g lb p w) :
    Calls Tryz.prog 77 #[v, .func (.func g) #[] lb] w fun e w' => e = .returned (.int .i64 (idxLq l p)) ∧ Below w.heap.size w w' := by
  obtain ⟨hin, a, c, b, o, rfl, hc, ha, hcell⟩ := h
  have HIN := Lib.hid hin
  have HC := Lib.hid hcell
  obtain ⟨Z, HZ⟩ : ∃ Z, Hid (idxLq l p = Z) := ⟨_, rfl⟩
  rw [HZ.out]
  have HP := Lib.hid hp
  obtain ⟨n, hN⟩ : ∃ n, l.length = n := ⟨_, rfl⟩
  rw [hN] at hc ha hl ⊢
  have HN := Lib.hid hN
  clear hcell hp hN hin
  go_enter Tryz.func77, Tryz.ntmps77
  go_wp2
  go_loopw [8] (fun i wr => ∃ k : Nat, k ≤ n ∧ i = .int .i64 k ∧ Hid (∀ (j : Nat) y, j < k → l[j]? = some y → p y = false) ∧ Hid (Below w.heap.size w wr)) (fun i _ => n - (intOf i).toNat)
  case atStart => exact ⟨0, by omega, rfl, Lib.hid (fun j y hj => by omega), Lib.hid (Below.refl _ _)⟩
  case round =>
    obtain ⟨k, hk, rfl, H, HB⟩ := hrel
    by_cases hlt : k < n
    · obtain ⟨rfl, hbw⟩ := ha (by omega)
      obtain ⟨x0, hx⟩ : ∃ x, l[k]? = some x := ⟨_, List.getElem?_eq_getElem (by rw [HN.out]; exact hlt)⟩
      obtain ⟨c0, c1⟩ := HC.out k x0 hx
      rw [← HB.out.cell (p := ⟨b, o + k * 2, none⟩) hbw] at c0
      rw [← HB.out.cell (p := ⟨b, o + k * 2 + 1, none⟩) hbw] at c1
      obtain ⟨pa, pc, -, -, hpv, -⟩ := HIN.out x0 (List.mem_of_getElem? hx)
      have hcall := HP.out wr x0 (List.mem_of_getElem? hx) HB.out
      rw [hpv] at c1 hcall
      have HX := Lib.hid hx
      clear hx
      cases hq : p x0
      · rw [hq] at hcall
        have HK : Hid (∀ (j : Nat) y, j < k + 1 → l[j]? = some y → p y = false) := Lib.hid (fun j y hj hy => by
          by_cases e : j = k
          · subst e
            rw [HX.out] at hy; cases hy
            exact hq
          · exact H.out j y (by omega) hy)
        clear hq H
        unfold bsT at c0
        generalize (⟨x0.1.1.toArray⟩ : ByteArray) = X0 at *
        go_wp2_with (go_at_fn g; refine hcall.mono ?_; rintro e w1 ⟨rfl, hb1⟩; have HB1 := Lib.hid (HB.out.trans (hb1.mono HB.out.size)); clear hb1)
        go_roundw
        case rel => exact ⟨k + 1, by omega, by go_num, HK, HB1⟩
        case measure => simp [intOf]; omega
      · rw [hq] at hcall
        have HF : Hid ((k : Int) = Z) := Lib.hid (by rw [← HZ.out, idxLq, idxLq_hit HX.out hq H.out])
        clear hq H
        unfold bsT at c0
        generalize (⟨x0.1.1.toArray⟩ : ByteArray) = X0 at *
        go_wp2_with (go_at_fn g; refine hcall.mono ?_; rintro e w1 ⟨rfl, hb1⟩; have HB1 := Lib.hid (HB.out.trans (hb1.mono HB.out.size)); clear hb1)
        go_ret
        exact ⟨reti HF.out, HB1.out⟩
    · obtain rfl : k = n := by omega
      have HF : Hid ((-1 : Int) = Z) := Lib.hid (by rw [← HZ.out, idxLq, idxLq_miss (fun j y hy => H.out j y (by have := (List.getElem?_eq_some_iff.1 hy).1; rw [HN.out] at this; exact this) hy)])
      clear hlt H
      go_wp2
      go_ret
      exact ⟨reti HF.out, HB.out⟩
theorem idxLq_neg {l : List Lp} {p : Lp → Bool} : (0 ≤ idxLq l p) = (l.any p = true) := by
  unfold idxLq
  cases h : l.findIdx? p with
  | none =>
    rw [List.findIdx?_eq_none_iff] at h
    have : l.any p = false := by rw [List.any_eq_false]; intro x hx; rw [h x hx]; simp
    rw [this]; simp
  | some k =>
    obtain ⟨hk, hp, _⟩ := List.findIdx?_eq_some_iff_getElem.1 h
    have : l.any p = true := List.any_eq_true.2 ⟨_, List.getElem_mem hk, hp⟩
    rw [this]; simp
set_option maxHeartbeats 4000000 in
theorem contLq_any (g : Nat) (lb : Array Value) (eg : ∀ args w, (callFunc g args).run Tryz.prog w = .ok (.enter g args) w) (p : Lp → Bool) (v : Value) (l : List Lp) (hl : l.length ≤ 90000) (w : World) (h : HoldL w v l) (hp : PredLq l g lb p w) :
    Calls Tryz.prog 47 #[v, .func (.func g) #[] lb] w fun e w' => e = .returned (.bool (l.any p)) ∧ Below w.heap.size w w' := by
  have C := idxLq_any g lb eg p v l hl w h hp
  obtain ⟨-, a, c, b, o, rfl, -⟩ := h
  have HN := Lib.hid (idxLq_neg (l := l) (p := p))
  generalize idxLq l p = z at *
  generalize hq : l.any p = q at *
  have hz : decide (0 ≤ z) = q := by
    have := HN.out
    cases q
    · rw [decide_eq_false_iff_not, this]; simp
    · rw [decide_eq_true_iff, this]
  generalize l.length = n at *
  clear hp hl hq
  cases q
  all_goals
    go_enter Tryz.func47, Tryz.ntmps47
    go_wp2_with (go_at_call 77; (with_reducible refine C.mono ?_); rintro e w1 ⟨rfl, hb⟩; have HB := Lib.hid hb; clear hb)
    go_ret
    exact ⟨rfl, HB.out⟩
end Go.Proofs.YtkcamfcjkjiijaaGreatDoor
namespace Go.Proofs.YtkcamfcjkjiijaaGreatDoor
open Go.RowKit Go.Shelf
theorem boxV1C (W : World) (c : Value) (t : TypeId) : (W.alloc (.cells #[c] t)).cell? ⟨W.heap.size, 0, none⟩ = some c := by
  rw [World.cell?_alloc_new]; rfl
set_option maxRecDepth 100000 in
set_option maxHeartbeats 8000000 in
theorem taken_any (x : Stv) (hd : x.ds.length ≤ 90000) (hl : x.ls.length ≤ 90000) (hp : ∀ p ∈ x.ls, p.1.2.length ≤ 90000) (ats but : ByteArray) (w : World) (hx : InSt w x) :
    Calls Tryz.prog 21 #[agS x, .string ats, .string but] w fun e w' => e = .returned (.bool (x.ls.any (takB x.ds ats.data.toList but.data.toList))) ∧ Below w.heap.size w w' := by
  obtain ⟨wa, hwa⟩ : ∃ wa, w.alloc (.cells #[x.rv, x.dv, x.ov, x.av, x.iv, x.fv, x.lv] 30) = wa := ⟨_, rfl⟩
  have ba : Below w.heap.size w wa := by rw [← hwa]; exact (Below.refl w.heap.size w).alloc (Nat.le_refl _) _
  have za : wa.heap.size = w.heap.size + 1 := by rw [← hwa]; simp
  have ca : Cell7 w.heap.size wa x := by
    have k := fun i v h => boxV7 w x.rv x.dv x.ov x.av x.iv x.fv x.lv 30 i v h
    rw [← hwa]
    exact ⟨k 0 _ rfl, k 1 _ rfl, k 2 _ rfl, k 3 _ rfl, k 4 _ rfl, k 5 _ rfl, k 6 _ rfl⟩
  obtain ⟨wb, hwb⟩ : ∃ wb, wa.alloc (.cells #[.string ats] 9) = wb := ⟨_, rfl⟩
  have bb : Below wa.heap.size wa wb := by rw [← hwb]; exact (Below.refl wa.heap.size wa).alloc (Nat.le_refl _) _
  have zb : wb.heap.size = w.heap.size + 2 := by rw [← hwb, World.size_alloc, za]
  have cb : wb.cell? ⟨w.heap.size + 1, 0, none⟩ = some (.string ats) := by rw [← za, ← hwb]; exact boxV1C _ _ _
  obtain ⟨wc, hwc⟩ : ∃ wc, wb.alloc (.cells #[.string but] 9) = wc := ⟨_, rfl⟩
  have bc : Below wb.heap.size wb wc := by rw [← hwc]; exact (Below.refl wb.heap.size wb).alloc (Nat.le_refl _) _
  have zc : wc.heap.size = w.heap.size + 3 := by rw [← hwc, World.size_alloc, zb]
  have cc : wc.cell? ⟨w.heap.size + 2, 0, none⟩ = some (.string but) := by rw [← zb, ← hwc]; exact boxV1C _ _ _
  have b3 : Below w.heap.size w wc := (ba.trans (bb.mono ba.size)).trans (bc.mono (by omega))
  have ca3 : Cell7 w.heap.size wc x := (ca.on bb).on bc
  have cb3 : wc.cell? ⟨w.heap.size + 1, 0, none⟩ = some (.string ats) := (bc.cell (p := ⟨w.heap.size + 1, 0, none⟩) (show w.heap.size + 1 < wb.heap.size by omega)).trans cb
  have CN := (contLq_any 48 #[.pointer (some ⟨w.heap.size + 2, 0, none⟩), .pointer (some ⟨w.heap.size, 0, none⟩), .pointer (some ⟨w.heap.size + 1, 0, none⟩)] (enters_of Tryz.func48 (by kernel_rfl) rfl) (takB x.ds ats.data.toList but.data.toList) x.lv x.ls hl wc (hx.on b3).ls (fun W p hpm hW => by
    have := taken1_any x hd p (hp p hpm) ats but (w.heap.size + 2) w.heap.size (w.heap.size + 1) W ((hW.cell (p := ⟨w.heap.size + 2, 0, none⟩) (show w.heap.size + 2 < wc.heap.size by omega)).trans cc) (ca3.on hW) ((hW.cell (p := ⟨w.heap.size + 1, 0, none⟩) (show w.heap.size + 1 < wc.heap.size by omega)).trans cb3) ((hx.on b3).on hW) (((hx.on b3).on hW).ls.1 p hpm)
    simpa using this)).mono (fun e w' (h : _ ∧ _) => (⟨h.1, b3.trans (h.2.mono b3.size)⟩ : _ ∧ Below w.heap.size w w'))
  obtain ⟨-, -, -, -, -, -, c6⟩ := ca3
  obtain ⟨⟨⟨ra, rc, -, -, hrv, -⟩, -⟩, ⟨oa, on, oc, hov⟩, ⟨aa, an, ac, hav⟩, ⟨ia, im, ic, hiv⟩, ⟨fa, fn, fc, hfv⟩, ⟨da, dn, dc, hdv⟩, ⟨la, ln, lc, hlv⟩⟩ := inS7_of hx
  generalize x.ls.any (takB x.ds ats.data.toList but.data.toList) = q at *
  clear hp hd hl hx ba ca bb cb bc zc cc b3 cb3
  obtain ⟨rs, ds, ls, rv, dv, ov, av, iv, fv, lv⟩ := x
  unfold agS
  dsimp only at *
  subst hrv hov hav hiv hfv hdv hlv
  simp only [List.length_map] at *
  go_enter Tryz.func21, Tryz.ntmps21
  go_wp2_with (go_at_call 47; (with_reducible refine CN.mono ?_); rintro e w4 ⟨rfl, hb⟩; have HB4 := Lib.hid hb; clear hb)
  first | (go_ret; exact ⟨rfl, HB4.out⟩) | exact ⟨rfl, HB4.out⟩
end Go.Proofs.YtkcamfcjkjiijaaGreatDoor
