/-
  The walk of ListsPrints: for every list and every slice of lists it returns true; nothing old turns. Condition: LaidP.
-/
import Derived.Test.YtogkickaebmeoaaDoorTParsesWalk
import Derived.Test.YtogkickaebmeoaaDoorTOpen
import Derived.Test.YtogkickaebmeoaaDoorTFew
import Derived.Test.YtogkickaebmeoaaDoorTCheckL
import Derived.Test.YtogkickaebmeoaaDoorTRefChk
import Derived.Deep.RegionHeld3
namespace Go.Proofs.YtogkickaebmeoaaDoor.listsPrintsw
open Go.RowKit
open listsParsesw (two_lists)
theorem FewL.smallL {L : List Lp} (h : FewL L) : SmallL L := fun p hp => ⟨by have := (h.2.1 p hp).1; omega, by have := (h.2.1 p hp).2; omega, h.small hp⟩
theorem ended_tp : ∀ {l : List Bs}, SmallP l → (ended10 l).length = tp l
  | [], _ => rfl
  | x :: l, h => by
    have h1 := h x (by simp)
    have h2 := ended_tp (l := l) (fun y hy => h y (by simp [hy]))
    have e : ended10 (x :: l) = (x ++ [10]) ++ ended10 l := rfl
    have e2 : tp (x :: l) = (1 + min x.length 4000) + tp l := by unfold tp; simp
    rw [e, e2, List.length_append, List.length_append, h2]
    simp; omega
set_option maxRecDepth 100000 in
set_option maxHeartbeats 8000000 in
theorem walk (w : World) (p : Lp) (bp : FitL p ∧ HoldT w p.2 p.1.2) (v : Value) (L : List Lp) (bl : L.length ≤ maxLen) (bs : ∀ p ∈ L, FitL p) (h : HoldL w v L) (hL : LaidP w) :
    Calls Tryd.prog 3 #[aggT p, v] w fun e' w' => e' = .returned (.bool true) ∧ Below w.heap.size w w' := by
  have AW := fun W (hb : Below w.heap.size w W) => awake13 W (hL.on hb)
  obtain ⟨⟨pn, pp⟩, pu⟩ := p
  have bf : pn.length ≤ maxLen ∧ pp.length ≤ maxLen ∧ ∀ q ∈ pp, q.length ≤ maxLen := bp.1
  have hp : HoldT w pu pp := bp.2
  obtain ⟨ua, un, uc, rfl⟩ := HoldT.form hp
  clear bp
  have B0 := (Below.refl w.heap.size w).alloc (Nat.le_refl _) (.cells #[.string (bsT pn), .slice ua un uc] 24)
  have B1 := B0.alloc B0.size (.cells #[.string (bsT pn), .slice ua un uc] 24)
  have HBX := Lib.hid (Box2.new w (.string (bsT pn)) (.slice ua un uc) 24)
  have HB1 := Lib.hid B1
  have HB0 := Lib.hid B0
  have b1 := box2 (w.alloc (.cells #[.string (bsT pn), .slice ua un uc] 24)) (.string (bsT pn)) (.slice ua un uc) 24
  rw [World.size_alloc] at b1
  have FX := few13_any _ [((pn, pp), .slice ua un uc)] _ (by unfold maxLen; simp) (fun y hy => by simp at hy; subst hy; exact bf) (hold1L b1.1 b1.2 (hp.on B1))
  have FE := few13_any v L _ bl bs (h.on B1)
  unfold FewPostL at FE FX
  have HH := Lib.hid h
  have HP := Lib.hid hp
  have hL0 := Lib.hid hL
  have HA1 := Lib.hid (HBX.out.on ((Below.refl (w.alloc (.cells #[.string (bsT pn), .slice ua un uc] 24)).heap.size (w.alloc (.cells #[.string (bsT pn), .slice ua un uc] 24))).alloc (Nat.le_refl _) (.cells #[.string (bsT pn), .slice ua un uc] 24)))
  obtain ⟨a, c, b, o, rfl, -, -, -⟩ := h.2
  clear h hL bl bs bf B0 B1 b1 hp
  unfold aggT
  dsimp only
  by_cases hfx : FewL [((pn, pp), .slice ua un uc)]
  case neg =>
    rw [fewL_no hfx] at FX
    clear hfx HH HP FE
    generalize L.length = n at *
    generalize bsT pn = X at *
    obtain ⟨x0, x1, -⟩ := HBX.out
    go_enter Tryd.func3, Tryd.ntmps3
    go_wp2_with (first
          | (go_at_call 8; (with_reducible refine FX.mono ?_); rintro e w1 ⟨rfl, rfl⟩)
          | (go_at_call 9; refine (AW _ HB1.out).mono ?_; rintro e w2 ⟨rfl, hb⟩; have HB9 := Lib.hid (HB1.out.trans (hb.mono HB1.out.size)); clear hb))
    go_ret
    exact ⟨rfl, HB9.out⟩
  rw [fewL_yes hfx] at FX
  by_cases hf : FewL L
  case neg =>
    rw [fewL_no hf] at FE
    clear hfx hf HH HP
    generalize L.length = n at *
    generalize bsT pn = X at *
    obtain ⟨x0, x1, -⟩ := HBX.out
    go_enter Tryd.func3, Tryd.ntmps3
    go_wp2_with (first
          | (go_at_call 8; first | ((with_reducible refine FX.mono ?_); rintro e w1 ⟨rfl, rfl⟩) | ((with_reducible refine FE.mono ?_); rintro e w1 ⟨rfl, rfl⟩))
          | (go_at_call 9; refine (AW _ HB1.out).mono ?_; rintro e w2 ⟨rfl, hb⟩; have HB9 := Lib.hid (HB1.out.trans (hb.mono HB1.out.size)); clear hb))
    go_ret
    exact ⟨rfl, HB9.out⟩
  rw [fewL_yes hf] at FE
  have hpm : ((pn, pp), Value.slice ua un uc) ∈ [((pn, pp), .slice ua un uc)] := by simp
  have hsp : SmallP pp := hfx.small hpm
  have hn3 : pn.length ≤ 300 := (hfx.2.1 _ hpm).1
  have hp7 : pp.length ≤ 70 := (hfx.2.1 _ hpm).2
  have hXs : (bsT pn).size ≤ 4000 := by rw [sizeOf, bytesOf]; omega
  have hln := hf.1
  have hsm := FewL.smallL hf
  have P1 := fun W (hb : Below w.heap.size w W) => print13_any (bsT pn) hXs (.slice ua un uc) pp (by omega) hsp W (hL0.out.on hb) (HP.out.on hb)
  have P2 := fun W (hb : Below w.heap.size w W) => print13_ref (bsT pn) hXs (.slice ua un uc) pp (by omega) hsp W (HP.out.on hb)
  have R1 := fun W (hb : Below w.heap.size w W) => right13_any (bsT pn) hXs (.slice ua un uc) pp (by omega) hsp W (hL0.out.on hb) (HP.out.on hb)
  have R2 := fun W (hb : Below w.heap.size w W) => right13_ref (bsT pn) hXs (.slice ua un uc) pp (by omega) hsp W (HP.out.on hb)
  have C1 := fun W (hb : Below w.heap.size w W) => check13_any _ L (by omega) hsm W (hL0.out.on hb) (HH.out.on hb)
  have C2 := fun W (hb : Below w.heap.size w W) => check13_ref _ L (by omega) hsm W (HH.out.on hb)
  unfold Pr13 at P1 P2
  rw [bytesOf] at P1 P2 R1 R2
  generalize check13 (L.map (·.1)) = zz at *
  cases hr : right13 (pn, pp)
  · rw [print13_no hr] at P1 P2
    rw [hr] at R1 R2
    dsimp only at P1 P2
    have e1 := eqT (bsT []) (bsT [])
    rw [decide_eq_true rfl] at e1
    generalize bsT [] = T at *
    clear hfx hf HH HP hsp hn3 hp7 hXs hln hsm hpm hr
    generalize L.length = n at *
    generalize bsT pn = X at *
    obtain ⟨x0, x1, -⟩ := HBX.out
    go_enter Tryd.func3, Tryd.ntmps3
    go_wp2_with (first
          | (go_at_call 8; first | ((with_reducible refine FX.mono ?_); rintro e w1 ⟨rfl, rfl⟩) | ((with_reducible refine FE.mono ?_); rintro e w1 ⟨rfl, rfl⟩; obtain ⟨z0, z1, -⟩ := HA1.out))
          | (go_at_call 10; (with_reducible refine (P1 _ HB1.out).mono ?_); rintro e w2 ⟨rfl, hb⟩; have HB2 := Lib.hid (HB1.out.trans (hb.mono HB1.out.size)); have HA2 := Lib.hid (HA1.out.on hb); obtain ⟨z2, z3, -⟩ := HA2.out; clear hb P1)
          | (go_at_call 11; (with_reducible refine (P2 _ HB2.out).mono ?_); rintro e w3 ⟨rfl, hb⟩; have HB3 := Lib.hid (HB2.out.trans (hb.mono HB2.out.size)); have HA3 := Lib.hid (HA2.out.on hb); clear hb P2))
    have hsz3 := HB3.out.size
    have hs := (show w3.cell? ⟨w.heap.size, 0, none⟩ = some (.string X) ∧ w3.cell? ⟨w.heap.size, 1, none⟩ = some (.slice ua un uc) ∧ Below w3.heap.size w3 w3 from ⟨HA3.out.c0, HA3.out.c1, Below.refl _ _⟩)
    have hs' := hs
    obtain ⟨x0, x1, hB⟩ := hs'
    have BW := fun V (h : V.cell? ⟨w.heap.size, 0, none⟩ = some (.string X) ∧ V.cell? ⟨w.heap.size, 1, none⟩ = some (.slice ua un uc) ∧ Below w3.heap.size w3 V) => HB3.out.trans ((s2_be h).mono hsz3)
    go_region_held3 (fun V => V.cell? ⟨w.heap.size, 0, none⟩ = some (.string X) ∧ V.cell? ⟨w.heap.size, 1, none⟩ = some (.slice ua un uc) ∧ Below w3.heap.size w3 V)
      (first | assumption | exact hs | exact s2_dr hs | exact s2_on (by assumption) (by assumption))
      ((first
        | (go_at_call 12; (with_reducible refine (R1 _ (BW _ (by assumption))).mono ?_); rintro e w4 ⟨rfl, hb⟩)
        | (go_at_call 13; (with_reducible refine (R2 _ (BW _ (by assumption))).mono ?_); rintro e w5 ⟨rfl, hb⟩)
        | (go_at_call 14; (with_reducible refine (C1 _ (BW _ (by assumption))).mono ?_); rintro e w6 ⟨rfl, hb⟩)
        | (go_at_call 15; (with_reducible refine (C2 _ (BW _ (by assumption))).mono ?_); rintro e w7 ⟨rfl, hb⟩)))
    all_goals
      rename_i hHeld
      have HB4 := Lib.hid (BW _ hHeld)
      clear hHeld hs BW
      go_wp2_with (go_at_call 9; (with_reducible refine (AW _ HB4.out).mono ?_); rintro e w8 ⟨rfl, hb⟩; have HB9 := Lib.hid (HB4.out.trans (hb.mono HB4.out.size)); clear hb)
      go_ret
      exact ⟨rfl, HB9.out⟩
  · rw [print13_ok hr] at P1 P2
    rw [hr] at R1 R2
    dsimp only at P1 P2
    have hst := (chkP_zero (right13_parts hr).2)
    have hlen : (ended10 pp).length ≤ 4000 := by rw [ended_tp hsp]; have := tot_mem hpm; have h4 := hfx.2.2; exact Nat.le_trans this h4
    have hpc : ∀ q ∈ spl 10 (bsT (ended10 pp)).data.toList, q.length ≤ 4000 := fun q hq => by
      rw [bytesOf, spl_ended _ (paths_10 hst.2), List.mem_append] at hq
      rcases hq with hq | hq
      · exact hsp q hq
      · simp at hq; subst hq; simp
    have PA := fun W (hb : Below w.heap.size w W) => parse13_any (bsT pn) hXs (bsT (ended10 pp)) (by rw [sizeOf, bytesOf]; omega) hpc W (hL0.out.on hb)
    unfold Pa13 at PA
    have HPA : Hid (∀ (A : ByteArray) v z (W : World), (∀ x, parse13 (bsT pn).data.toList (bsT (ended10 pp)).data.toList = some x → z = (0 : Int) ∧ A.data.toList = x.1 ∧ HoldT W v x.2) → z = 0 ∧ A = bsT pn ∧ HoldT W v pp) := Lib.hid (fun A v z W h => by
      obtain ⟨h1, h2, h3⟩ := h (pn, pp) (by rw [bytesOf, bytesOf]; exact parse_text13 (x := (pn, pp)) hr)
      exact ⟨h1, strOf h2, h3⟩)
    have SA := fun p2 u v W h1 h2 => same13_ref u v [((pn, pp), .slice ua un uc)] [((pn, pp), p2)] rfl (by simp) (fun q hq => by simp at hq; subst hq; show pp.length ≤ 90000; omega) W h1 h2
    have TL := fun (W : World) (p2 : Value) (h1 : HoldT W (.slice ua un uc) pp) (h2 : HoldT W p2 pp) => two_lists (W := W) (p := ((pn, pp), .slice ua un uc)) (q := ((pn, pp), p2)) h1 h2
    dsimp only at TL
    have e1 := eqT (bsT (ended10 pp)) (bsT (ended10 pp))
    rw [decide_eq_true rfl] at e1
    generalize bsT (ended10 pp) = T at *
    clear hfx hf HH hsp hn3 hp7 hXs hln hsm hpm hr hst hlen hpc
    generalize L.length = n at *
    generalize bsT pn = X at *
    obtain ⟨x0, x1, -⟩ := HBX.out
    go_enter Tryd.func3, Tryd.ntmps3
    go_wp2_with (first
          | (go_at_call 8; first | ((with_reducible refine FX.mono ?_); rintro e w1 ⟨rfl, rfl⟩) | ((with_reducible refine FE.mono ?_); rintro e w1 ⟨rfl, rfl⟩; obtain ⟨z0, z1, -⟩ := HA1.out))
          | (go_at_call 10; (with_reducible refine (P1 _ HB1.out).mono ?_); rintro e w2 ⟨rfl, hb⟩; have HB2 := Lib.hid (HB1.out.trans (hb.mono HB1.out.size)); have HA2 := Lib.hid (HA1.out.on hb); obtain ⟨z2, z3, -⟩ := HA2.out; clear hb P1)
          | (go_at_call 11; (with_reducible refine (P2 _ HB2.out).mono ?_); rintro e w3 ⟨rfl, hb⟩; have HB3 := Lib.hid (HB2.out.trans (hb.mono HB2.out.size)); have HA3 := Lib.hid (HA2.out.on hb); clear hb P2))
    have hsz3 := HB3.out.size
    have hs := (show w3.cell? ⟨w.heap.size, 0, none⟩ = some (.string X) ∧ w3.cell? ⟨w.heap.size, 1, none⟩ = some (.slice ua un uc) ∧ Below w3.heap.size w3 w3 from ⟨HA3.out.c0, HA3.out.c1, Below.refl _ _⟩)
    have hs' := hs
    obtain ⟨x0, x1, hB⟩ := hs'
    have BW := fun V (h : V.cell? ⟨w.heap.size, 0, none⟩ = some (.string X) ∧ V.cell? ⟨w.heap.size, 1, none⟩ = some (.slice ua un uc) ∧ Below w3.heap.size w3 V) => HB3.out.trans ((s2_be h).mono hsz3)
    go_region_held3 (fun V => V.cell? ⟨w.heap.size, 0, none⟩ = some (.string X) ∧ V.cell? ⟨w.heap.size, 1, none⟩ = some (.slice ua un uc) ∧ Below w3.heap.size w3 V)
      (first | assumption | exact hs | exact s2_dr hs | exact s2_on (by assumption) (by assumption))
      ((first
        | (go_at_call 12; (with_reducible refine (R1 _ (BW _ (by assumption))).mono ?_); rintro e w4 ⟨rfl, hb⟩)
        | (go_at_call 13; (with_reducible refine (R2 _ (BW _ (by assumption))).mono ?_); rintro e w5 ⟨rfl, hb⟩)
        | (go_at_call 14; (with_reducible refine (C1 _ (BW _ (by assumption))).mono ?_); rintro e w6 ⟨rfl, hb⟩)
        | (go_at_call 15; (with_reducible refine (C2 _ (BW _ (by assumption))).mono ?_); rintro e w7 ⟨rfl, hb⟩)))
    all_goals
      rename_i hHeld
      have HB4 := Lib.hid (BW _ hHeld)
      have HA4 := Lib.hid (HA3.out.on (s2_be hHeld))
      obtain ⟨x0, x1, -⟩ := HA4.out
      clear hHeld hs BW
      have PA4 := PA _ HB4.out
      have HPT := Lib.hid (fun W (hb : Below w.heap.size w W) => HP.out.on hb)
      clear HP PA
      go_wp2_with (first
        | (go_at_call 16; (with_reducible refine PA4.mono ?_); rintro e w8 ⟨A, v8, z8, rfl, hpx, -, hb⟩; obtain ⟨rfl, e1, hv8⟩ := HPA.out _ _ _ _ hpx; subst e1; obtain ⟨a8, n8, c8, rfl⟩ := HoldT.form hv8; have hal := (Below.refl w8.heap.size w8).alloc (Nat.le_refl _) (.cells #[.string A, .slice a8 n8 c8] 24); have HB8 := Lib.hid (HB4.out.trans (hb.mono HB4.out.size)); have HB9 := Lib.hid (HB8.out.alloc HB8.out.size (.cells #[.string A, .slice a8 n8 c8] 24)); obtain ⟨x0, x1, -⟩ := (HA4.out.on hb).on hal; obtain ⟨y0, y1⟩ := box2 w8 (.string A) (.slice a8 n8 c8) 24; have h2 := TL (w8.alloc (.cells #[.string A, .slice a8 n8 c8] 24)) (.slice a8 n8 c8) (HPT.out _ HB9.out) (hv8.on hal); rw [World.size_alloc] at h2; have SA2 := SA (.slice a8 n8 c8) _ _ _ h2.1 h2.2.1; have HBa := Lib.hid (HB9.out.trans (h2.2.2.mono (by have := HB8.out.size; omega))); clear hpx hb hv8 hal h2 SA PA4)
        | (go_at_call 17; (with_reducible refine SA2.mono ?_); rintro e w9 ⟨rfl, hb⟩; have HBb := Lib.hid (HBa.out.trans (hb.mono HBa.out.size)); clear hb SA2)
        | (go_at_call 9; (with_reducible refine (AW _ HBb.out).mono ?_); rintro e wc ⟨rfl, hb⟩; have HBc := Lib.hid (HBb.out.trans (hb.mono HBb.out.size)); clear hb))
      go_ret
      exact ⟨rfl, HBc.out⟩
end Go.Proofs.YtogkickaebmeoaaDoor.listsPrintsw
