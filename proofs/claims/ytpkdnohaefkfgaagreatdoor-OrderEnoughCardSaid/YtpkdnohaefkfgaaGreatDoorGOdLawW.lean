/-
  The law OrderEnough: true; nothing old turns. Conditions: LaidU, LaidE.
-/
import Derived.Test.YtpkdnohaefkfgaaGreatDoorGOdLaw
namespace Go.Proofs.YtpkdnohaefkfgaaGreatDoor
open Go.RowKit Go.Shelf
set_option maxRecDepth 100000 in
set_option maxHeartbeats 32000000 in
theorem orderEnoughW (v : Value) (l : List Uv) (hl : l.length ≤ maxLen) (hf : ∀ x ∈ l, FitU x) (w : World) (hL : LaidU w) (hE : LaidE w) (h : HoldU w v l) : Calls Tryz.prog 3 #[v] w fun e w' => e = .returned (.bool true) ∧ Below w.heap.size w w' := by
  have A8 := fun W (hb : Below w.heap.size w W) => awake31 W (hL.on hb).q.v
  have FW := fewU_any v l hl hf w h
  have hh := h
  obtain ⟨a0, c0, -, -, hv, -⟩ := hh.parts
  subst hv
  by_cases hfew : FewU l
  case neg =>
    have FN : Calls Tryz.prog 4 #[.slice a0 l.length c0] w fun e w' => e = .returned (.bool false) ∧ Below w.heap.size w w' := FW.mono fun e w' ⟨fb, he, hi, hb⟩ => by
      cases fb
      · exact ⟨he, hb⟩
      · exact absurd (hi rfl) hfew
    clear FW hfew hL hE h hh hf hl
    go_enter Tryz.func3, Tryz.ntmps3
    go_wp2_with (first
      | (go_at_call 4; (with_reducible refine FN.mono ?_); rintro e w1 ⟨rfl, hb⟩; have HB1 := Lib.hid hb; clear hb)
      | (go_at_call 6; (with_reducible refine (A8 _ HB1.out).mono ?_); rintro e w5 ⟨rfl, hb⟩; have HB5 := Lib.hid (HB1.out.trans (hb.mono HB1.out.size)); clear hb))
    go_ret
    exact ⟨rfl, HB5.out⟩
  have hs : ∀ x ∈ l, SmallU x := fun x hx => (hfew.2 x hx).small (hf x hx)
  have hn : l.length ≤ 90000 := by have := hfew.1; omega
  have CU := fun W (hb : Below w.heap.size w W) => checkU_any _ l hn hs W (h.on hb) (hL.on hb) (hE.on hb)
  by_cases hk : kchkK rightU (fun x => x.nm) l = 0
  case neg =>
    obtain ⟨z, hz⟩ : ∃ z, kchkK rightU (fun x => x.nm) l = z := ⟨_, rfl⟩
    rw [hz] at CU hk
    have hz1 : (z != 0) = true := by simpa using hk
    clear hk hz hfew hL hE h hh hf hl hs hn
    go_enter Tryz.func3, Tryz.ntmps3
    go_wp2_with (go_at_call 4; (with_reducible refine FW.mono ?_); rintro e w1 ⟨fb, rfl, -, hb⟩; have HB1 := Lib.hid hb; clear hb FW; refine Hid.out ?_)
    refine Lib.hid ?_
    cases fb
    · go_wp2_with (go_at_call 6; (with_reducible refine (A8 _ HB1.out).mono ?_); rintro e w5 ⟨rfl, hb⟩; have HB5 := Lib.hid (HB1.out.trans (hb.mono HB1.out.size)); clear hb)
      go_ret
      exact ⟨rfl, HB5.out⟩
    · go_wp2_with (first
        | (go_at_call 5; (with_reducible refine (CU _ HB1.out).mono ?_); rintro e w2 ⟨rfl, hb⟩; have HB2 := Lib.hid (HB1.out.trans (hb.mono HB1.out.size)); clear hb)
        | (go_at_call 6; (with_reducible refine (A8 _ HB2.out).mono ?_); rintro e w5 ⟨rfl, hb⟩; have HB5 := Lib.hid (HB2.out.trans (hb.mono HB2.out.size)); clear hb))
      go_ret
      exact ⟨rfl, HB5.out⟩
  rw [hk] at CU
  obtain ⟨h64, hrt, hnd⟩ := names_nodup hk
  have TH := fun W (hb : Below w.heap.size w W) => there_ref _ l hn W (h.on hb)
  have PL := fun W (hb : Below w.heap.size w W) => plan_any _ l h64 hrt W (h.on hb) (hL.on hb).q.v
  have SK := fun W (hb : Below w.heap.size w W) => stuck_any _ l h64 hrt W (h.on hb) (hL.on hb).q.v
  have HRT := Lib.hid hrt
  have HND := Lib.hid hnd
  have HIN := Lib.hid h.2
  have HHU := Lib.hid h
  obtain ⟨a, c, b, o, hv, hcc, ha, hcell⟩ := h.parts
  simp only [Value.slice.injEq] at hv
  obtain ⟨rfl, -, rfl⟩ := hv
  have HC := Lib.hid hcell
  have FD := Lib.hid (fun (m : Nat) (x : Uv) (hm : AtM l x m) (p : ByteArray) (hp : p.data.toList = x.nm) W (hb : Below w.heap.size w W) => find_ref8 _ l hn m x hm.at' hm.first p hp W (h.on hb))
  have HA := Lib.hid ha
  obtain ⟨n, hN⟩ : ∃ n, l.length = n := ⟨_, rfl⟩
  rw [hN] at hcc HA FD CU TH PL SK FW h64 ⊢
  have HN := Lib.hid hN
  obtain ⟨i0, hi, hz0, hz1, hz2'⟩ := info_parts infoQ
  clear hk hfew hL hE h hh hf hl hs hn hrt hnd hcell hN ha
  go_enter Tryz.func3, Tryz.ntmps3
  go_wp2_with (go_at_call 4; (with_reducible refine FW.mono ?_); rintro e w1 ⟨fb, rfl, -, hb⟩; have HB1 := Lib.hid hb; clear hb FW; refine Hid.out ?_)
  refine Lib.hid ?_
  cases fb
  · go_wp2_with (go_at_call 6; (with_reducible refine (A8 _ HB1.out).mono ?_); rintro e w5 ⟨rfl, hb⟩; have HB5 := Lib.hid (HB1.out.trans (hb.mono HB1.out.size)); clear hb)
    go_ret
    exact ⟨rfl, HB5.out⟩
  go_wp2_with (first
    | (go_at_call 5; (with_reducible refine (CU _ HB1.out).mono ?_); rintro e w2 ⟨rfl, hb⟩; have HB2 := Lib.hid (HB1.out.trans (hb.mono HB1.out.size)); clear hb)
    | (go_at_call 7; (with_reducible refine (TH _ HB2.out).mono ?_); rintro e w3 ⟨tv, rfl, ho, hb⟩; have HSZ3 := Lib.hid hb.size; have HO3 := Lib.hid ho; have HB3 := Lib.hid (HB2.out.trans (hb.mono HB2.out.size)); have hs2 := HB2.out.size; clear ho hb)
    | (go_at_call 8; (with_reducible refine (PL _ HB3.out).mono ?_); rintro e w4 ⟨⟨xs, pa, pn, pc, rfl, hp, ht⟩, hb⟩; have HP := Lib.hid hp; have HSZ4 := Lib.hid (Nat.le_trans HSZ3.out hb.size); have HT4 := Lib.hid (OwnT.mono ht (Nat.zero_le _)); have HO4 := Lib.hid (OwnV.on HO3.out hb); have HB4 := Lib.hid (HB3.out.trans (hb.mono HB3.out.size)); clear hp ht hb)
    | (go_at_call 9; (with_reducible refine (SK _ HB4.out).mono ?_); rintro e w5 ⟨⟨ys, sa, sn, sc, rfl, hp, ht⟩, hb⟩; have HP2 := Lib.hid hp; have HSZ5 := Lib.hid (Nat.le_trans HSZ4.out hb.size); have HS5 := Lib.hid (OwnT.mono ht (Nat.zero_le _)); have HT5 := Lib.hid (OwnT.onQ HT4.out hb); have HO5 := Lib.hid (OwnV.on HO4.out hb); have HB5 := Lib.hid (HB4.out.trans (hb.mono HB4.out.size)); clear hp ht hb))
  have he := plan_uniq HP2.out HP.out
  subst he
  clear HP2 HT4 HO3 HO4 CU TH PL SK
  obtain ⟨N, hXN⟩ : ∃ N, ys.length = N := ⟨_, rfl⟩
  have hpn : pn = N := by
    obtain ⟨_, _, _, _, e, -⟩ := OwnT.holds HT5.out
    simp only [Value.slice.injEq] at e
    rw [e.2.1, List.length_map]; exact hXN
  subst hpn
  have HXN := Lib.hid hXN
  have hN64 : pn ≤ 64 := by have := HP.out.plan.len; rw [HN.out] at this; omega
  clear hXN
  have HO0 : Hid (OwnQ w5 w2.heap.size tv (behindU l (ys.take 0))) := Lib.hid (by rw [List.take_zero, show behindU l [] = thereU l by unfold behindU; simp]; exact HO5.out)
  go_loopw [3, 6] (fun t i wr => ∃ k : Nat, k ≤ pn ∧ i = .int .i64 k ∧ Hid (w2.heap.size ≤ wr.heap.size) ∧ Hid (OwnQ wr w2.heap.size t (behindU l (ys.take k))) ∧ Hid (OwnT wr 0 (.slice pa pn pc) (nmsU ys)) ∧ Hid (OwnT wr 0 (.slice sa sn sc) (nmsU (stuckU l (nmsU ys)))) ∧ Hid (Below w.heap.size w wr)) (fun _ i _ => pn - (intOf i).toNat)
  case atStart => exact ⟨0, by omega, rfl, HSZ5, HO0, HT5, HS5, HB5⟩
  case round =>
    obtain ⟨k, hk, rfl, HSZ, HO, HT, HS, HBW⟩ := hrel
    by_cases hlt : k < pn
    · obtain ⟨x, hx⟩ : ∃ x, ys[k]? = some x := ⟨_, List.getElem?_eq_getElem (by rw [HXN.out]; exact hlt)⟩
      obtain ⟨⟨m, hm⟩, hnot, hop, hlk⟩ := plan_at HND.out HP.out.plan hx
      have hmn : m < n := by have := hm.lt; rw [HN.out] at this; exact this
      have hxl := List.mem_of_getElem? hm.at'
      obtain ⟨hab, hbw⟩ := HA.out (by omega)
      subst hab
      obtain ⟨x0, x1, x2, x3, -⟩ := HC.out m x hm.at'
      obtain ⟨a3, n3, m3, q3⟩ := formU3 (HIN.out x hxl)
      obtain ⟨pa', pc', pb, po, pe, pcc, pha, phc⟩ := OwnT.holds HT.out
      simp only [Value.slice.injEq] at pe
      obtain ⟨rfl, -, rfl⟩ := pe
      have hln : (nmsU ys).length = pn := by rw [List.length_map]; exact HXN.out
      obtain ⟨hpa, hpb⟩ := pha (by omega)
      subst hpa
      have n0 := phc k x.nm (by rw [List.getElem?_map, hx]; rfl)
      rw [← HBW.out.cell (p := ⟨b, o + m * 9, none⟩) hbw] at x0
      rw [← HBW.out.cell (p := ⟨b, o + m * 9 + 1, none⟩) hbw] at x1
      rw [← HBW.out.cell (p := ⟨b, o + m * 9 + 2, none⟩) hbw] at x2
      rw [← HBW.out.cell (p := ⟨b, o + m * 9 + 3, none⟩) hbw] at x3
      have hkc : k ≤ pc := by omega
      have HW27 : Hid (w2.heap.size ≤ wr.heap.size) := HSZ
      have FDx := fun W (hb : Below w.heap.size w W) => FD.out m x hm (⟨x.nm.toArray⟩ : ByteArray) (by simp) W hb
      have HSx : ∀ W, Below wr.heap.size wr W → Calls Tryz.prog 11 #[.slice (some ⟨pb, po, none⟩) k pc, .string (⟨x.nm.toArray⟩ : ByteArray)] W fun e w' => e = .returned (.bool false) ∧ Below W.heap.size W w' := fun W hb => by
        have hT : HoldT W (.slice (some ⟨pb, po, none⟩) pn pc) (nmsU ys) := (OwnT.holds HT.out).on hb
        refine (has_ref2 _ ((nmsU ys).take k) (by rw [List.length_take]; omega) (⟨x.nm.toArray⟩ : ByteArray) (by rw [bytesOf, ← List.map_take]; exact hnot) W (holdT_cut hT k (by omega))).mono fun e w' ⟨he, hw⟩ => ⟨he, by rw [hw]; exact Below.refl _ _⟩
      have OPx : ∀ W, Calls Tryz.prog 12 #[.int .i64 x.st] W fun e w' => e = .returned (.bool true) ∧ Below W.heap.size W w' := fun W => (open_any x.st W).mono fun e w' ⟨he, hw⟩ => ⟨by rw [he, hop], by rw [← hw]; exact Below.refl _ _⟩
      obtain ⟨ta, tc, -, -, htv, -⟩ := HO.out.holds
      rw [List.length_map] at htv
      subst htv
      have LKx : ∀ W, Below wr.heap.size wr W → Calls Tryz.prog 13 #[x.dv, .slice ta (behindU l (ys.take k)).length tc] W fun e w' => (∃ a c, e = .returned (.slice a 0 c)) ∧ Below W.heap.size W w' := fun W hb => by
        have hpk := plan_take HP.out.plan k
        have hbl := behind_len hpk
        have hll := HN.out
        have := lacks_rec x (HRT.out x hxl) (behindU l (ys.take k)) _ (by omega) (behind_small HRT.out hpk) W ((HIN.out x hxl).on (HBW.out.trans (hb.mono HBW.out.size))) (HoldV.on (OwnV.holds HO.out) hb)
        rw [hlk] at this
        exact this
      have HBL : Hid ((behindU l (ys.take k)).length ≤ 128) := Lib.hid (by have := behind_len (plan_take HP.out.plan k); have := HN.out; omega)
      have HBT := Lib.hid (behind_take (l := l) hx)
      have HXX : Hid ((⟨x.nm.toArray⟩ : ByteArray).data.toList = x.nm ∧ (⟨x.vr.toArray⟩ : ByteArray).data.toList = x.vr) := Lib.hid ⟨by simp, by simp⟩
      obtain ⟨TT, hTT⟩ : ∃ TT, behindU l (ys.take k) = TT := ⟨_, rfl⟩
      rw [hTT] at HO LKx HBL HBT ⊢
      rw [q3] at LKx x3
      generalize (⟨x.nm.toArray⟩ : ByteArray) = X0 at *
      generalize (⟨x.vr.toArray⟩ : ByteArray) = X1 at *
      generalize x.st = st at *
      have j0 : (0 : Int) ≤ (k : Int) := by omega
      have j1 : (k : Int) < (pn : Int) := by omega
      have j2 : (0 : Int) ≤ (m : Int) := by omega
      have j3 : (m : Int) < (n : Int) := by omega
      have j4 : ¬ ((m : Int) < 0) := by omega
      have HAB := Lib.hid (And.intro x0 x1)
      have HAT := Lib.hid hm
      have HBW2 := Lib.hid hbw
      have HXL := Lib.hid hx
      clear hx hm hnot hop hlk hxl hTT q3 phc pha pcc FD
      have FDy := FDx wr HBW.out
      clear FDx
      go_wp2_with (go_at_call 10; (with_reducible refine FDy.mono ?_); rintro e wq ⟨rfl, hwq⟩; rw [hwq]; clear hwq)
      have hs := And.intro n0 (And.intro x2 (And.intro x3 (Below.refl wr.heap.size wr)))
      have BE := fun (V : World) (h : V.cell? ⟨pb, po + k, none⟩ = some (.string X0) ∧ V.cell? ⟨b, o + m * 9 + 2, none⟩ = some (.int .i64 st) ∧ V.cell? ⟨b, o + m * 9 + 3, none⟩ = some (.slice a3 n3 m3) ∧ Below wr.heap.size wr V) => AtF.be (w := wr) (l := [(⟨pb, po + k, none⟩, .string X0), (⟨b, o + m * 9 + 2, none⟩, .int .i64 st), (⟨b, o + m * 9 + 3, none⟩, .slice a3 n3 m3)]) h
      refine wp_region_held_drew (S := (fun V => V.cell? ⟨pb, po + k, none⟩ = some (.string X0) ∧ V.cell? ⟨b, o + m * 9 + 2, none⟩ = some (.int .i64 st) ∧ V.cell? ⟨b, o + m * 9 + 3, none⟩ = some (.slice a3 n3 m3) ∧ Below wr.heap.size wr V)) (by kernel_rfl) ?_ (fun hHeld => ?_)
      · (try dsimp only); (first | assumption | exact hs | exact AtF.dr (w := wr) (l := [(⟨pb, po + k, none⟩, .string X0), (⟨b, o + m * 9 + 2, none⟩, .int .i64 st), (⟨b, o + m * 9 + 3, none⟩, .slice a3 n3 m3)]) hs | exact AtF.dr (w := wr) (l := [(⟨pb, po + k, none⟩, .string X0), (⟨b, o + m * 9 + 2, none⟩, .int .i64 st), (⟨b, o + m * 9 + 3, none⟩, .slice a3 n3 m3)]) (by assumption) | exact AtF.on (w := wr) (l := [(⟨pb, po + k, none⟩, .string X0), (⟨b, o + m * 9 + 2, none⟩, .int .i64 st), (⟨b, o + m * 9 + 3, none⟩, .slice a3 n3 m3)]) (by assumption) (by assumption) | exact AtF.al (w := wr) (l := [(⟨pb, po + k, none⟩, .string X0), (⟨b, o + m * 9 + 2, none⟩, .int .i64 st), (⟨b, o + m * 9 + 3, none⟩, .slice a3 n3 m3)]) (by assumption) _ | exact AtF.ald (w := wr) (l := [(⟨pb, po + k, none⟩, .string X0), (⟨b, o + m * 9 + 2, none⟩, .int .i64 st), (⟨b, o + m * 9 + 3, none⟩, .slice a3 n3 m3)]) (by assumption) _ | exact AtF.al (w := wr) (l := [(⟨pb, po + k, none⟩, .string X0), (⟨b, o + m * 9 + 2, none⟩, .int .i64 st), (⟨b, o + m * 9 + 3, none⟩, .slice a3 n3 m3)]) hs _ | exact AtF.ald (w := wr) (l := [(⟨pb, po + k, none⟩, .string X0), (⟨b, o + m * 9 + 2, none⟩, .int .i64 st), (⟨b, o + m * 9 + 3, none⟩, .slice a3 n3 m3)]) hs _)
      refine heldY 0 39 ?_ _ rfl rfl (by kernel_rfl) (by kernel_rfl) (by kernel_rfl) (fun _ _ _ h => h) rfl (by assumption) ?_ ?_
      rotate_left
      · (intro w hSw; (try dsimp only at hSw); go_simp; (try with_reducible rfl))
      try simp only [List.setIfInBounds_toArray, List.set_cons_zero, List.set_cons_succ]
      refine heldY 1 40 ?_ _ rfl rfl (by kernel_rfl) (by kernel_rfl) (by kernel_rfl) (fun _ _ _ h => h) rfl (by assumption) ?_ ?_
      rotate_left
      · (intro w hSw; (try dsimp only at hSw); go_simp; (try with_reducible rfl))
      try simp only [List.setIfInBounds_toArray, List.set_cons_zero, List.set_cons_succ]
      refine heldY 2 41 ?_ _ rfl rfl (by kernel_rfl) (by kernel_rfl) (by kernel_rfl) (fun _ _ _ h => h) rfl (by assumption) ?_ ?_
      rotate_left
      · (intro w hSw; (try dsimp only at hSw); go_simp; (try with_reducible rfl))
      try simp only [List.setIfInBounds_toArray, List.set_cons_zero, List.set_cons_succ]
      refine heldY 3 42 ?_ _ rfl rfl (by kernel_rfl) (by kernel_rfl) (by kernel_rfl) (fun _ _ _ h => h) rfl (by assumption) ?_ ?_
      rotate_left
      · (intro w hSw; (try dsimp only at hSw); go_simp; (try with_reducible rfl))
      try simp only [List.setIfInBounds_toArray, List.set_cons_zero, List.set_cons_succ]
      refine heldY 4 43 ?_ _ rfl rfl (by kernel_rfl) (by kernel_rfl) (by kernel_rfl) (fun _ _ _ h => h) rfl (by assumption) ?_ ?_
      rotate_left
      · (intro w hSw; (try dsimp only at hSw); go_simp; (try with_reducible rfl))
      try simp only [List.setIfInBounds_toArray, List.set_cons_zero, List.set_cons_succ]
      refine heldY 5 44 ?_ _ rfl rfl (by kernel_rfl) (by kernel_rfl) (by kernel_rfl) (fun _ _ _ h => h) rfl (by assumption) ?_ ?_
      rotate_left
      · (intro w hSw; (try dsimp only at hSw); go_simp; (try with_reducible rfl))
      try simp only [List.setIfInBounds_toArray, List.set_cons_zero, List.set_cons_succ]
      refine heldY 6 45 ?_ _ rfl rfl (by kernel_rfl) (by kernel_rfl) (by kernel_rfl) (fun _ _ _ h => h) rfl (by assumption) ?_ ?_
      rotate_left
      · (intro w hSw; (try dsimp only at hSw); go_simp; (try with_reducible rfl))
      try simp only [List.setIfInBounds_toArray, List.set_cons_zero, List.set_cons_succ]
      refine heldY 7 46 ?_ _ rfl rfl (by kernel_rfl) (by kernel_rfl) (by kernel_rfl) (fun _ _ _ h => h) rfl (by assumption) ?_ ?_
      rotate_left
      · (intro w hSw; (try dsimp only at hSw); go_simp; (try with_reducible rfl))
      try simp only [List.setIfInBounds_toArray, List.set_cons_zero, List.set_cons_succ]
      refine heldY 8 47 ?_ _ rfl rfl (by kernel_rfl) (by kernel_rfl) (by kernel_rfl) (fun _ _ _ h => h) rfl (by assumption) ?_ ?_
      rotate_left
      · (intro w hSw; (try dsimp only at hSw); go_simp; (try with_reducible rfl))
      try simp only [List.setIfInBounds_toArray, List.set_cons_zero, List.set_cons_succ]
      refine heldY 9 48 ?_ _ rfl rfl (by kernel_rfl) (by kernel_rfl) (by kernel_rfl) (fun _ _ _ h => h) rfl (by assumption) ?_ ?_
      rotate_left
      · (intro w hSw; (try dsimp only at hSw); go_simp; (try with_reducible rfl))
      try simp only [List.setIfInBounds_toArray, List.set_cons_zero, List.set_cons_succ]
      refine wpAnyH_ready (rs := [10]) (by kernel_rfl) (by simp) ?_
      refine AllReadyH.cons rfl (fun K hK => ?_) AllReadyH.nil
      go_simp
      first | (go_at_call 11; (with_reducible refine (HSx _ (BE _ (by assumption))).mono ?_); rintro e w7 ⟨rfl, hb⟩) | (go_at_call 12; (with_reducible refine (OPx _).mono ?_); rintro e w7 ⟨rfl, hb⟩) | (go_at_call 13; (with_reducible refine (LKx _ (BE _ (by assumption))).mono ?_); rintro e w7 ⟨⟨la, lc, rfl⟩, hb⟩)
      refine hK.out _ _ ?_ (fun hHeld => ?_)
      · (try dsimp only); (first | assumption | exact hs | exact AtF.dr (w := wr) (l := [(⟨pb, po + k, none⟩, .string X0), (⟨b, o + m * 9 + 2, none⟩, .int .i64 st), (⟨b, o + m * 9 + 3, none⟩, .slice a3 n3 m3)]) hs | exact AtF.dr (w := wr) (l := [(⟨pb, po + k, none⟩, .string X0), (⟨b, o + m * 9 + 2, none⟩, .int .i64 st), (⟨b, o + m * 9 + 3, none⟩, .slice a3 n3 m3)]) (by assumption) | exact AtF.on (w := wr) (l := [(⟨pb, po + k, none⟩, .string X0), (⟨b, o + m * 9 + 2, none⟩, .int .i64 st), (⟨b, o + m * 9 + 3, none⟩, .slice a3 n3 m3)]) (by assumption) (by assumption) | exact AtF.al (w := wr) (l := [(⟨pb, po + k, none⟩, .string X0), (⟨b, o + m * 9 + 2, none⟩, .int .i64 st), (⟨b, o + m * 9 + 3, none⟩, .slice a3 n3 m3)]) (by assumption) _ | exact AtF.ald (w := wr) (l := [(⟨pb, po + k, none⟩, .string X0), (⟨b, o + m * 9 + 2, none⟩, .int .i64 st), (⟨b, o + m * 9 + 3, none⟩, .slice a3 n3 m3)]) (by assumption) _ | exact AtF.al (w := wr) (l := [(⟨pb, po + k, none⟩, .string X0), (⟨b, o + m * 9 + 2, none⟩, .int .i64 st), (⟨b, o + m * 9 + 3, none⟩, .slice a3 n3 m3)]) hs _ | exact AtF.ald (w := wr) (l := [(⟨pb, po + k, none⟩, .string X0), (⟨b, o + m * 9 + 2, none⟩, .int .i64 st), (⟨b, o + m * 9 + 3, none⟩, .slice a3 n3 m3)]) hs _)
      clear hK K
      try simp only [Act.put, List.setIfInBounds_toArray, List.set_cons_zero, List.set_cons_succ]
      refine heldY 11 50 ?_ _ rfl rfl (by kernel_rfl) (by kernel_rfl) (by kernel_rfl) (fun _ _ _ h => h) rfl (by assumption) ?_ ?_
      rotate_left
      · (intro w hSw; (try dsimp only at hSw); go_simp; (try with_reducible rfl))
      try simp only [List.setIfInBounds_toArray, List.set_cons_zero, List.set_cons_succ]
      refine heldY 12 51 ?_ _ rfl rfl (by kernel_rfl) (by kernel_rfl) (by kernel_rfl) (fun _ _ _ h => h) rfl (by assumption) ?_ ?_
      rotate_left
      · (intro w hSw; (try dsimp only at hSw); go_simp; (try with_reducible rfl))
      try simp only [List.setIfInBounds_toArray, List.set_cons_zero, List.set_cons_succ]
      refine heldY 13 52 ?_ _ rfl rfl (by kernel_rfl) (by kernel_rfl) (by kernel_rfl) (fun _ _ _ h => h) rfl (by assumption) ?_ ?_
      rotate_left
      · (intro w hSw; (try dsimp only at hSw); go_simp; (try with_reducible rfl))
      try simp only [List.setIfInBounds_toArray, List.set_cons_zero, List.set_cons_succ]
      refine heldY 14 53 ?_ _ rfl rfl (by kernel_rfl) (by kernel_rfl) (by kernel_rfl) (fun _ _ _ h => h) rfl (by assumption) ?_ ?_
      rotate_left
      · (intro w hSw; (try dsimp only at hSw); go_simp; (try with_reducible rfl))
      try simp only [List.setIfInBounds_toArray, List.set_cons_zero, List.set_cons_succ]
      refine heldY 15 54 ?_ _ rfl rfl (by kernel_rfl) (by kernel_rfl) (by kernel_rfl) (fun _ _ _ h => h) rfl (by assumption) ?_ ?_
      rotate_left
      · (intro w hSw; (try dsimp only at hSw); go_simp; (try with_reducible rfl))
      try simp only [List.setIfInBounds_toArray, List.set_cons_zero, List.set_cons_succ]
      refine heldY 16 55 ?_ _ rfl rfl (by kernel_rfl) (by kernel_rfl) (by kernel_rfl) (fun _ _ _ h => h) rfl (by assumption) ?_ ?_
      rotate_left
      · (intro w hSw; (try dsimp only at hSw); go_simp; (try with_reducible rfl))
      try simp only [List.setIfInBounds_toArray, List.set_cons_zero, List.set_cons_succ]
      refine heldY 17 56 ?_ _ rfl rfl (by kernel_rfl) (by kernel_rfl) (by kernel_rfl) (fun _ _ _ h => h) rfl (by assumption) ?_ ?_
      rotate_left
      · (intro w hSw; (try dsimp only at hSw); go_simp; (try with_reducible rfl))
      try simp only [List.setIfInBounds_toArray, List.set_cons_zero, List.set_cons_succ]
      refine wpAnyH_ready (rs := [18]) (by kernel_rfl) (by simp) ?_
      refine AllReadyH.cons rfl (fun K hK => ?_) AllReadyH.nil
      go_simp
      first | (go_at_call 11; (with_reducible refine (HSx _ (BE _ (by assumption))).mono ?_); rintro e w7 ⟨rfl, hb⟩) | (go_at_call 12; (with_reducible refine (OPx _).mono ?_); rintro e w7 ⟨rfl, hb⟩) | (go_at_call 13; (with_reducible refine (LKx _ (BE _ (by assumption))).mono ?_); rintro e w7 ⟨⟨la, lc, rfl⟩, hb⟩)
      refine hK.out _ _ ?_ (fun hHeld => ?_)
      · (try dsimp only); (first | assumption | exact hs | exact AtF.dr (w := wr) (l := [(⟨pb, po + k, none⟩, .string X0), (⟨b, o + m * 9 + 2, none⟩, .int .i64 st), (⟨b, o + m * 9 + 3, none⟩, .slice a3 n3 m3)]) hs | exact AtF.dr (w := wr) (l := [(⟨pb, po + k, none⟩, .string X0), (⟨b, o + m * 9 + 2, none⟩, .int .i64 st), (⟨b, o + m * 9 + 3, none⟩, .slice a3 n3 m3)]) (by assumption) | exact AtF.on (w := wr) (l := [(⟨pb, po + k, none⟩, .string X0), (⟨b, o + m * 9 + 2, none⟩, .int .i64 st), (⟨b, o + m * 9 + 3, none⟩, .slice a3 n3 m3)]) (by assumption) (by assumption) | exact AtF.al (w := wr) (l := [(⟨pb, po + k, none⟩, .string X0), (⟨b, o + m * 9 + 2, none⟩, .int .i64 st), (⟨b, o + m * 9 + 3, none⟩, .slice a3 n3 m3)]) (by assumption) _ | exact AtF.ald (w := wr) (l := [(⟨pb, po + k, none⟩, .string X0), (⟨b, o + m * 9 + 2, none⟩, .int .i64 st), (⟨b, o + m * 9 + 3, none⟩, .slice a3 n3 m3)]) (by assumption) _ | exact AtF.al (w := wr) (l := [(⟨pb, po + k, none⟩, .string X0), (⟨b, o + m * 9 + 2, none⟩, .int .i64 st), (⟨b, o + m * 9 + 3, none⟩, .slice a3 n3 m3)]) hs _ | exact AtF.ald (w := wr) (l := [(⟨pb, po + k, none⟩, .string X0), (⟨b, o + m * 9 + 2, none⟩, .int .i64 st), (⟨b, o + m * 9 + 3, none⟩, .slice a3 n3 m3)]) hs _)
      clear hK K
      try simp only [Act.put, List.setIfInBounds_toArray, List.set_cons_zero, List.set_cons_succ]
      refine heldY 19 58 ?_ _ rfl rfl (by kernel_rfl) (by kernel_rfl) (by kernel_rfl) (fun _ _ _ h => h) rfl (by assumption) ?_ ?_
      rotate_left
      · (intro w hSw; (try dsimp only at hSw); go_simp; (try with_reducible rfl))
      try simp only [List.setIfInBounds_toArray, List.set_cons_zero, List.set_cons_succ]
      refine heldY 20 59 ?_ _ rfl rfl (by kernel_rfl) (by kernel_rfl) (by kernel_rfl) (fun _ _ _ h => h) rfl (by assumption) ?_ ?_
      rotate_left
      · (intro w hSw; (try dsimp only at hSw); go_simp; (try with_reducible rfl))
      try simp only [List.setIfInBounds_toArray, List.set_cons_zero, List.set_cons_succ]
      refine heldY 21 60 ?_ _ rfl rfl (by kernel_rfl) (by kernel_rfl) (by kernel_rfl) (fun _ _ _ h => h) rfl (by assumption) ?_ ?_
      rotate_left
      · (intro w hSw; (try dsimp only at hSw); go_simp; (try with_reducible rfl))
      try simp only [List.setIfInBounds_toArray, List.set_cons_zero, List.set_cons_succ]
      refine heldY 22 61 ?_ _ rfl rfl (by kernel_rfl) (by kernel_rfl) (by kernel_rfl) (fun _ _ _ h => h) rfl (by assumption) ?_ ?_
      rotate_left
      · (intro w hSw; (try dsimp only at hSw); go_simp; (try with_reducible rfl))
      try simp only [List.setIfInBounds_toArray, List.set_cons_zero, List.set_cons_succ]
      refine heldY 23 62 ?_ _ rfl rfl (by kernel_rfl) (by kernel_rfl) (by kernel_rfl) (fun _ _ _ h => h) rfl (by assumption) ?_ ?_
      rotate_left
      · (intro w hSw; (try dsimp only at hSw); go_simp; (try with_reducible rfl))
      try simp only [List.setIfInBounds_toArray, List.set_cons_zero, List.set_cons_succ]
      refine heldY 24 63 ?_ _ rfl rfl (by kernel_rfl) (by kernel_rfl) (by kernel_rfl) (fun _ _ _ h => h) rfl (by assumption) ?_ ?_
      rotate_left
      · (intro w hSw; (try dsimp only at hSw); go_simp; (try with_reducible rfl))
      try simp only [List.setIfInBounds_toArray, List.set_cons_zero, List.set_cons_succ]
      refine heldY 25 64 ?_ _ rfl rfl (by kernel_rfl) (by kernel_rfl) (by kernel_rfl) (fun _ _ _ h => h) rfl (by assumption) ?_ ?_
      rotate_left
      · (intro w hSw; (try dsimp only at hSw); go_simp; (try with_reducible rfl))
      try simp only [List.setIfInBounds_toArray, List.set_cons_zero, List.set_cons_succ]
      refine heldY 26 65 ?_ _ rfl rfl (by kernel_rfl) (by kernel_rfl) (by kernel_rfl) (fun _ _ _ h => h) rfl (by assumption) ?_ ?_
      rotate_left
      · (intro w hSw; (try dsimp only at hSw); go_simp; (try with_reducible rfl))
      try simp only [List.setIfInBounds_toArray, List.set_cons_zero, List.set_cons_succ]
      refine heldY 27 66 ?_ _ rfl rfl (by kernel_rfl) (by kernel_rfl) (by kernel_rfl) (fun _ _ _ h => h) rfl (by assumption) ?_ ?_
      rotate_left
      · (intro w hSw; (try dsimp only at hSw); go_simp; (try with_reducible rfl))
      try simp only [List.setIfInBounds_toArray, List.set_cons_zero, List.set_cons_succ]
      refine wpAnyH_ready (rs := [28]) (by kernel_rfl) (by simp) ?_
      refine AllReadyH.cons rfl (fun K hK => ?_) AllReadyH.nil
      go_simp
      first | (go_at_call 11; (with_reducible refine (HSx _ (BE _ (by assumption))).mono ?_); rintro e w7 ⟨rfl, hb⟩) | (go_at_call 12; (with_reducible refine (OPx _).mono ?_); rintro e w7 ⟨rfl, hb⟩) | (go_at_call 13; (with_reducible refine (LKx _ (BE _ (by assumption))).mono ?_); rintro e w7 ⟨⟨la, lc, rfl⟩, hb⟩)
      refine hK.out _ _ ?_ (fun hHeld => ?_)
      · (try dsimp only); (first | assumption | exact hs | exact AtF.dr (w := wr) (l := [(⟨pb, po + k, none⟩, .string X0), (⟨b, o + m * 9 + 2, none⟩, .int .i64 st), (⟨b, o + m * 9 + 3, none⟩, .slice a3 n3 m3)]) hs | exact AtF.dr (w := wr) (l := [(⟨pb, po + k, none⟩, .string X0), (⟨b, o + m * 9 + 2, none⟩, .int .i64 st), (⟨b, o + m * 9 + 3, none⟩, .slice a3 n3 m3)]) (by assumption) | exact AtF.on (w := wr) (l := [(⟨pb, po + k, none⟩, .string X0), (⟨b, o + m * 9 + 2, none⟩, .int .i64 st), (⟨b, o + m * 9 + 3, none⟩, .slice a3 n3 m3)]) (by assumption) (by assumption) | exact AtF.al (w := wr) (l := [(⟨pb, po + k, none⟩, .string X0), (⟨b, o + m * 9 + 2, none⟩, .int .i64 st), (⟨b, o + m * 9 + 3, none⟩, .slice a3 n3 m3)]) (by assumption) _ | exact AtF.ald (w := wr) (l := [(⟨pb, po + k, none⟩, .string X0), (⟨b, o + m * 9 + 2, none⟩, .int .i64 st), (⟨b, o + m * 9 + 3, none⟩, .slice a3 n3 m3)]) (by assumption) _ | exact AtF.al (w := wr) (l := [(⟨pb, po + k, none⟩, .string X0), (⟨b, o + m * 9 + 2, none⟩, .int .i64 st), (⟨b, o + m * 9 + 3, none⟩, .slice a3 n3 m3)]) hs _ | exact AtF.ald (w := wr) (l := [(⟨pb, po + k, none⟩, .string X0), (⟨b, o + m * 9 + 2, none⟩, .int .i64 st), (⟨b, o + m * 9 + 3, none⟩, .slice a3 n3 m3)]) hs _)
      clear hK K
      try simp only [Act.put, List.setIfInBounds_toArray, List.set_cons_zero, List.set_cons_succ]
      refine heldY 29 68 ?_ _ rfl rfl (by kernel_rfl) (by kernel_rfl) (by kernel_rfl) (fun _ _ _ h => h) rfl (by assumption) ?_ ?_
      rotate_left
      · (intro w hSw; (try dsimp only at hSw); go_simp; (try with_reducible rfl))
      try simp only [List.setIfInBounds_toArray, List.set_cons_zero, List.set_cons_succ]
      refine heldY 30 69 ?_ _ rfl rfl (by kernel_rfl) (by kernel_rfl) (by kernel_rfl) (fun _ _ _ h => h) rfl (by assumption) ?_ ?_
      rotate_left
      · (intro w hSw; (try dsimp only at hSw); go_simp; (try with_reducible rfl))
      try simp only [List.setIfInBounds_toArray, List.set_cons_zero, List.set_cons_succ]
      refine heldY 31 70 ?_ _ rfl rfl (by kernel_rfl) (by kernel_rfl) (by kernel_rfl) (fun _ _ _ h => h) rfl (by assumption) ?_ ?_
      rotate_left
      · (intro w hSw; (try dsimp only at hSw); go_simp; (try with_reducible rfl))
      try simp only [List.setIfInBounds_toArray, List.set_cons_zero, List.set_cons_succ]
      refine wpAnyH_done (by kernel_rfl) ?_ _
      have HB9 := Lib.hid (BE _ hHeld)
      clear BE hHeld HSx OPx LKx
      have hbw3 : b < wr.heap.size := Nat.lt_of_lt_of_le HBW2.out HBW.out.size
      have g0 := (HB9.out.cell (p := ⟨b, o + m * 9, none⟩) hbw3).trans HAB.out.1
      have g1 := (HB9.out.cell (p := ⟨b, o + m * 9 + 1, none⟩) hbw3).trans HAB.out.2
      have HB10 := Lib.hid (HBW.out.trans (HB9.out.mono HBW.out.size))
      have b11 := ((Below.refl w7.heap.size w7).alloc (Nat.le_refl _) (.cells #[.string X0, .string ⟨#[]⟩, .string X1] 41)).drew
      have HT9 := Lib.hid (OwnT.onQ (OwnT.onQ HT.out HB9.out) b11)
      have HS9 := Lib.hid (OwnT.onQ (OwnT.onQ HS.out HB9.out) b11)
      have HO9 := Lib.hid (OwnV.on HO.out HB9.out)
      have HOA : Hid (OwnQ (w7.alloc (.cells #[.string X0, .string ⟨#[]⟩, .string X1] 41)).drew w2.heap.size (.slice ta TT.length tc) TT) := Lib.hid (OwnV.on HO9.out ((Below.refl _ _).alloc (Nat.le_refl _) _).drew)
      have HNW : Hid (∀ j u, [Value.string X0, .string ⟨#[]⟩, .string X1][j]? = some u → (w7.alloc (.cells #[.string X0, .string ⟨#[]⟩, .string X1] 41)).drew.cell? ((⟨w7.heap.size, 0, none⟩ : Addr).add j) = some u) := Lib.hid (fun j u hj => news3Q (w := w7) X0 X1 _ j u hj)
      have hs27 : w2.heap.size ≤ w7.heap.size := Nat.le_trans HW27.out HB9.out.size
      clear n0 x0 x1 x2 x3 hs HB9 HAB HO b11 HT HS
      go_wp2
      go_region_law (refine step_append_lies _ rfl _ _ 27 rfl w2.heap.size 41 i0 _ 3 48 Tryz.underlying27 hi hz0 hz1 hz2' rfl (by decide) _ _ _ rfl HOA.out.2 ⟨w7.heap.size, 0, none⟩ 1 1 [.string X0, .string ⟨#[]⟩, .string X1] rfl rfl HNW.out (by simp [Value.oneCell']) (by decide) (by have := HBL.out; unfold maxLen; simp; omega) (by have := HBL.out; simp; omega) (by simp; omega) _ rfl ?_; intro g cap w6 hown' hgrow h4 h5; have HO6 : Hid (OwnQ w6 w2.heap.size _ (TT ++ [(x.nm, [], x.vr)])) := Lib.hid (OwnQ.app (x := (x.nm, [], x.vr)) HXX.out.1 rfl HXX.out.2 (by simpa using hown')); have HG6 := Lib.hid hgrow; clear hown' hgrow h4 h5)
      all_goals
        have HO7 := HO6
        rw [show TT ++ [(x.nm, ([] : Bs), x.vr)] = behindU l (ys.take (k + 1)) from HBT.out.symm] at HO7
        have HB6 : Hid (Below w.heap.size w w6) := Lib.hid ((HB10.out.alloc HB10.out.size _).drew.grown HG6.out (HB10.out.alloc HB10.out.size _).drew.size (fun q hq => Nat.le_trans hs2 (World.ownsRow.lt HOA.out.2 q hq).1))
        have hs76 : w7.heap.size ≤ w6.heap.size := by have h1 := HG6.out.size; have h2 : (w7.alloc (.cells #[.string X0, .string ⟨#[]⟩, .string X1] 41)).drew.heap.size = w7.heap.size + 1 := World.size_alloc _ _; omega
        have HT6 := Lib.hid (World.ownsRow.kept HT9.out HG6.out (kinds_apart HT9.out HOA.out.2 (by decide)))
        have HS6 := Lib.hid (World.ownsRow.kept HS9.out HG6.out (kinds_apart HS9.out HOA.out.2 (by decide)))
        clear HG6 HOA HNW HO6 HT9 HS9
        go_wp2
        go_roundw
        case rel => exact ⟨k + 1, by omega, by go_num, Lib.hid (Nat.le_trans hs27 hs76), HO7, HT6, HS6, HB6⟩
        case measure => simp [intOf]; omega
    · obtain rfl : k = pn := by omega
      have HFE : Hid (behindU l (ys.take k) = behindU l ys) := Lib.hid (by rw [List.take_of_length_le (by rw [HXN.out]; omega)])
      rw [HFE.out] at HO
      obtain ⟨W1, hW1⟩ : ∃ W1, W1 = wr := ⟨_, rfl⟩
      rw [← hW1] at HO HT HS HBW HSZ ⊢
      clear hW1 hlt HFE
      go_wp2
      go_loopw [8, 9] (fun u i wr => ∃ j q : Nat, j ≤ n ∧ q ≤ j ∧ i = .int .i64 j ∧ u = .int .i64 q ∧ Hid (q = ((l.take j).filter fun x => openZ x.st).length) ∧ wr = W1) (fun _ i _ => n - (intOf i).toNat)
      case atStart => exact ⟨0, 0, by omega, by omega, rfl, rfl, Lib.hid (by simp), rfl⟩
      case round =>
        obtain ⟨j, q, hj, hqj, rfl, rfl, HQ, hwr⟩ := hrel
        have hw2 := hwr.symm
        clear hwr
        subst hw2
        by_cases hlt : j < n
        · obtain ⟨hab, hbw⟩ := HA.out (by omega)
          subst hab
          obtain ⟨x, hx⟩ : ∃ x, l[j]? = some x := ⟨_, List.getElem?_eq_getElem (by rw [HN.out]; exact hlt)⟩
          obtain ⟨-, -, x2, -⟩ := HC.out j x hx
          rw [← HBW.out.cell (p := ⟨b, o + j * 9 + 2, none⟩) hbw] at x2
          have OPx := fun W => open_any x.st W
          have HQ2 : Hid (((l.take (j + 1)).filter fun x => openZ x.st).length = q + if openZ x.st = true then 1 else 0) := Lib.hid (by
            rw [List.take_add_one, hx, List.filter_append, List.length_append, ← HQ.out]
            congr 1
            by_cases g : openZ x.st = true <;> simp [g])
          have j0 : (0 : Int) ≤ (j : Int) := by omega
          have j1 : (j : Int) < (n : Int) := by omega
          have hq64 : q ≤ 64 := by omega
          generalize openZ x.st = ob at *
          generalize x.st = st at *
          clear hx HQ
          cases ob
          · go_wp2_with (go_at_call 12; (with_reducible refine (OPx _).mono ?_); rintro e wq ⟨rfl, rfl⟩)
            go_roundw
            case rel => exact ⟨j + 1, q, by omega, by omega, by go_num, rfl, Lib.hid (by rw [HQ2.out]; rfl), trivial⟩
            case measure => simp [intOf]; omega
          · go_wp2_with (go_at_call 12; (with_reducible refine (OPx _).mono ?_); rintro e wq ⟨rfl, rfl⟩)
            go_roundw
            case rel => exact ⟨j + 1, q + 1, by omega, by omega, by go_num, by go_num, Lib.hid (by rw [HQ2.out]; rfl), trivial⟩
            case measure => simp [intOf]; omega
        · obtain rfl : j = n := by omega
          have HQN : Hid (q = (l.filter fun x => openZ x.st).length) := Lib.hid (by have := HQ.out; rwa [List.take_of_length_le (by rw [HN.out]; omega)] at this)
          have HCT : Hid (k + (stuckU l (nmsU ys)).length = q) := Lib.hid (by rw [HQN.out, ← plan_count HND.out HP.out.plan, HXN.out])
          obtain ⟨sa', sc', sb, so, se, scc, sha, shc⟩ := OwnT.holds HS.out
          have hsl : (nmsU (stuckU l (nmsU ys))).length = (stuckU l (nmsU ys)).length := List.length_map _
          obtain ⟨M, hM⟩ : ∃ M, (stuckU l (nmsU ys)).length = M := ⟨_, rfl⟩
          rw [hsl, hM] at se scc sha
          rw [hM] at HCT
          simp only [Value.slice.injEq] at se
          obtain ⟨rfl, rfl, rfl⟩ := se
          have HSC := Lib.hid shc
          have HMM := Lib.hid hM
          have hqn : q ≤ j := hqj
          have hMq : sn ≤ 64 := by have := HCT.out; omega
          obtain ⟨ta, tc, -, -, htv, -⟩ := HO.out.holds
          rw [List.length_map] at htv
          subst htv
          have LK := Lib.hid (fun (x : Uv) (hx : x ∈ l) W (hb : Below W1.heap.size W1 W) => by
            have hbl := behind_len HP.out.plan
            have hll := HN.out
            exact lacks_rec x (HRT.out x hx) (behindU l ys) _ (by omega) (behind_small HRT.out HP.out.plan) W ((HIN.out x hx).on (HBW.out.trans (hb.mono HBW.out.size))) (HoldV.on (OwnV.holds HO.out) hb))
          obtain ⟨TL, hTL⟩ : ∃ TL, (behindU l ys).length = TL := ⟨_, rfl⟩
          rw [hTL] at LK ⊢
          have HPX := Lib.hid HP.out
          clear hTL shc hM hsl HQ HQN HT hlt
          go_wp2
          go_loopw [10] (fun i wr => ∃ r : Nat, r ≤ sn ∧ i = .int .i64 r ∧ Hid (Below W1.heap.size W1 wr)) (fun i _ => sn - (intOf i).toNat)
          case atStart => exact ⟨0, by omega, rfl, Lib.hid (Below.refl _ _)⟩
          case round =>
            obtain ⟨r, hr, rfl, HB⟩ := hrel
            have HBX : Hid (Below w.heap.size w wr) := Lib.hid (HBW.out.trans (HB.out.mono HBW.out.size))
            by_cases hlt : r < sn
            · obtain ⟨hsa, hsb⟩ := sha (by omega)
              subst hsa
              obtain ⟨x, hx⟩ : ∃ x, (stuckU l (nmsU ys))[r]? = some x := ⟨_, List.getElem?_eq_getElem (by rw [HMM.out]; exact hlt)⟩
              obtain ⟨hxl, hen⟩ := stuck_lacks HPX.out (List.mem_of_getElem? hx)
              obtain ⟨m, hm⟩ := atM_of HND.out hxl
              have hmn : m < j := by have := hm.lt; rw [HN.out] at this; exact this
              obtain ⟨hab, hbw⟩ := HA.out (by omega)
              subst hab
              have n0 := HSC.out r x.nm (by rw [List.getElem?_map, hx]; rfl)
              rw [← HB.out.cell (p := ⟨sb, so + r, none⟩) hsb] at n0
              obtain ⟨-, -, -, x3, -⟩ := HC.out m x hm.at'
              rw [← HBX.out.cell (p := ⟨b, o + m * 9 + 3, none⟩) hbw] at x3
              obtain ⟨a3, n3, m3, q3⟩ := formU3 (HIN.out x hxl)
              have FDy := FD.out m x hm (⟨x.nm.toArray⟩ : ByteArray) (by simp) wr HBX.out
              have LKx := LK.out x hxl wr HB.out
              have hln : 1 ≤ lackN (behindU l ys) x := by
                unfold enoughB at hen
                simp at hen
                omega
              rw [q3] at LKx x3
              generalize lackN (behindU l ys) x = ln at *
              generalize (⟨x.nm.toArray⟩ : ByteArray) = X0 at *
              have j0 : (0 : Int) ≤ (r : Int) := by omega
              have j1 : (r : Int) < (sn : Int) := by omega
              have j2 : (0 : Int) ≤ (m : Int) := by omega
              have j3 : (m : Int) < (j : Int) := by omega
              have j4 : ¬ ((m : Int) < 0) := by omega
              have j5 : ((ln : Int) == 0) = false := by simp; omega
              clear hx hxl hen hm q3 FD LK
              go_wp2_with (first
                | (go_at_call 10; (with_reducible refine FDy.mono ?_); rintro e wq ⟨rfl, hwq⟩; rw [hwq]; clear hwq)
                | (go_at_call 13; (with_reducible refine LKx.mono ?_); rintro e w7 ⟨⟨la, lc, rfl⟩, hb⟩; have HB7 := Lib.hid (HB.out.trans (hb.mono HB.out.size)); clear hb))
              go_roundw
              case rel => exact ⟨r + 1, by omega, by go_num, HB7⟩
              case measure => simp [intOf]; omega
            · obtain rfl : r = sn := by omega
              have hsum : ((k : Int) + (r : Int) == (q : Int)) = true := by have := HCT.out; simp; omega
              clear hlt LK FD
              go_wp2_with (go_at_call 6; (with_reducible refine (A8 _ HBX.out).mono ?_); rintro e w9 ⟨rfl, hb⟩; have HB9 := Lib.hid (HBX.out.trans (hb.mono HBX.out.size)); clear hb)
              go_ret
              exact ⟨rfl, HB9.out⟩
end Go.Proofs.YtpkdnohaefkfgaaGreatDoor
