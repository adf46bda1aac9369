/-
  Which alternative may be, by the reference: what it returns; nothing old turns.
-/
import Derived.Test.YtnfhccnicojdcaaGreatDoorZRefSm
import Derived.Test.YtnfhccnicojdcaaGreatDoorZRight2
import Derived.IntWalk
namespace Go.Proofs.YtnfhccnicojdcaaGreatDoor
open Go.RowKit
theorem links_small {x : Av} (hs : SmA x) : ∀ k ∈ linksA x, k.length ≤ 4000 := fun k hk => by
  unfold linksA at hk
  rcases List.mem_cons.1 hk with rfl | hk
  · exact hs.lk
  · obtain ⟨s, h, rfl⟩ := List.mem_map.1 hk
    exact (hs.ss s h).2
theorem names_small {x : Av} (hs : SmA x) : ∀ k ∈ namesA x, k.length ≤ 4000 := fun k hk => by
  unfold namesA at hk
  rcases List.mem_cons.1 hk with rfl | hk
  · exact hs.nm
  · obtain ⟨s, h, rfl⟩ := List.mem_map.1 hk
    exact (hs.ss s h).1
theorem stepL_bad1 {x : Av} {i : Nat} {k n : Bs} (h1 : (linksA x)[i]? = some k) (h2 : (namesA x)[i]? = some n) (g : ¬ stepL x i k n) : ¬ StepsL x := fun q => g (q i k n h1 h2)
set_option maxRecDepth 100000 in
set_option maxHeartbeats 400000000 in
theorem rightA_ref (x : Av) (hs : SmA x) (w : World) (h : InA w x) : Calls Tryz.prog 43 #[agZA x] w fun e w' => e = .returned (.bool (rightA x)) ∧ Below w.heap.size w w' := by
  have B1 := (Below.refl w.heap.size w).alloc (Nat.le_refl _) (.cells #[.string (⟨x.nm.toArray⟩ : ByteArray), .string (⟨x.lk.toArray⟩ : ByteArray), .bool x.mn, .string (⟨x.cr.toArray⟩ : ByteArray), x.sv, x.cv] 26)
  obtain ⟨x0, x1, x2, x3, x4, x5⟩ := boxV6 w (.string (⟨x.nm.toArray⟩ : ByteArray)) (.string (⟨x.lk.toArray⟩ : ByteArray)) (.bool x.mn) (.string (⟨x.cr.toArray⟩ : ByteArray)) x.sv x.cv 26
  obtain ⟨sa, sc, ca, cc, hsh⟩ := h.sh
  have LK := fun W (hb : Below w.heap.size w W) => links_ref x hs.sl W (h.on hb)
  have NA := fun W (hb : Below w.heap.size w W) => names_ref x hs.sl W (h.on hb)
  have CH := fun W (hb : Below w.heap.size w W) => choiceZ_ref x hs.ch (⟨x.cr.toArray⟩ : ByteArray) W (h.on hb)
  rw [bytesOf] at CH
  have BST := fun W (hb : Below w.heap.size w W) => bestC_ref x.cv x.ch hs.ch W (HoldC.on h.2 hb)
  have HGD := Lib.hid (good_iff x)
  have HIN := Lib.hid h
  have HS := Lib.hid hs
  have HLL := Lib.hid (linksA_len x)
  have HNL := Lib.hid (namesA_len x)
  unfold agZA at LK NA CH ⊢
  rw [hsh.s, hsh.c] at B1 x0 x1 x2 x3 x4 x5 LK NA CH ⊢
  rw [hsh.c] at BST
  have h91 := hs.sl
  have h92 := hs.ch
  obtain ⟨sn, hsn⟩ : ∃ n, x.sl.length = n := ⟨_, rfl⟩
  obtain ⟨cn, hcn⟩ : ∃ n, x.ch.length = n := ⟨_, rfl⟩
  have HSN := Lib.hid hsn
  have HCVV := Lib.hid hsh.c
  have HCN := Lib.hid hcn
  rw [hsn, hcn] at B1 x0 x1 x2 x3 x4 x5 LK NA CH ⊢
  rw [hcn] at BST h92
  rw [hsn] at h91
  have HB1 := Lib.hid B1
  have HXS := Lib.hid (And.intro x4 x5)
  have HX0 := Lib.hid (And.intro x0 (And.intro x1 (And.intro x2 x3)))
  have l0 := World.block_lt_of_cell? _ _ x0
  obtain ⟨X0, hX0⟩ : ∃ q : ByteArray, (⟨x.nm.toArray⟩ : ByteArray) = q := ⟨_, rfl⟩
  obtain ⟨X1, hX1⟩ : ∃ q : ByteArray, (⟨x.lk.toArray⟩ : ByteArray) = q := ⟨_, rfl⟩
  obtain ⟨X3, hX3⟩ : ∃ q : ByteArray, (⟨x.cr.toArray⟩ : ByteArray) = q := ⟨_, rfl⟩
  rw [hX0, hX1, hX3] at HX0 HXS HB1 l0 B1 x0 x1 x2 x3 x4 x5 LK NA CH
  rw [hX0, hX1, hX3]
  clear hX0 hX1 hX3 hsh h hs hsn hcn B1
  obtain ⟨mn, hmn⟩ : ∃ q, x.mn = q := ⟨_, rfl⟩
  rw [hmn] at HX0 HXS HB1 l0 x0 x1 x2 x3 x4 x5 LK NA CH
  rw [hmn]
  have HMN := Lib.hid hmn
  clear hmn
  obtain ⟨R, hR⟩ : ∃ R, rightA x = R := ⟨_, rfl⟩
  rw [hR]
  have HNO : Hid (¬ GoodA x → false = R) := Lib.hid (fun g => by rw [← hR, rightA_no g])
  have HYES : Hid (GoodA x → true = R) := Lib.hid (fun g => by rw [← hR, rightA_yes g])
  clear hR
  go_enter Tryz.func43, Tryz.ntmps43
  go_wp2_with (first
    | (go_at_call 15; (with_reducible refine (LK _ HB1.out).mono ?_); rintro e w2 ⟨v2, rfl, ho, hb⟩; have HO2 := Lib.hid ho.holds; have HB2 := Lib.hid (HB1.out.trans (hb.mono HB1.out.size)); have HB12 := Lib.hid hb; have y0 := (hb.cell (p := ⟨w.heap.size, 0, none⟩) l0).trans x0; have y1 := (hb.cell (p := ⟨w.heap.size, 1, none⟩) l0).trans x1; have y2 := (hb.cell (p := ⟨w.heap.size, 2, none⟩) l0).trans x2; have y3 := (hb.cell (p := ⟨w.heap.size, 3, none⟩) l0).trans x3; have y4 := (hb.cell (p := ⟨w.heap.size, 4, none⟩) l0).trans x4; have y5 := (hb.cell (p := ⟨w.heap.size, 5, none⟩) l0).trans x5; clear hb ho)
    | (go_at_call 44; (with_reducible refine (NA _ HB2.out).mono ?_); rintro e w3 ⟨v3, rfl, ho, hb⟩; have HO3 := Lib.hid ho.holds; have HB3 := Lib.hid (HB2.out.trans (hb.mono HB2.out.size)); have HO23 := Lib.hid (HO2.out.on hb); have HB13 := Lib.hid (HB12.out.trans (hb.mono HB12.out.size)); clear hb ho; refine Hid.out ?_))
  obtain ⟨ka, kc, kb, ko, hv2, hkc, hka, hkcell⟩ := HO23.out
  obtain ⟨na, nc, nb, no, hv3, hnc, hna, hncell⟩ := HO3.out
  rw [HLL.out, HSN.out] at hv2 hkc hka
  rw [HNL.out, HSN.out] at hv3 hnc hna
  subst hv2 hv3
  obtain ⟨rfl, hkb⟩ := hka (by omega)
  obtain ⟨rfl, hnb⟩ := hna (by omega)
  have HKC := Lib.hid hkcell
  have HNC := Lib.hid hncell
  have l3 := HB13.out
  have X4 : Hid (w3.cell? ⟨w.heap.size, 0, none⟩ = some (.string X0) ∧ w3.cell? ⟨w.heap.size, 1, none⟩ = some (.string X1) ∧ w3.cell? ⟨w.heap.size, 2, none⟩ = some (.bool mn) ∧ w3.cell? ⟨w.heap.size, 3, none⟩ = some (.string X3) ∧ w3.cell? ⟨w.heap.size, 4, none⟩ = some (.slice sa sn sc) ∧ w3.cell? ⟨w.heap.size, 5, none⟩ = some (.slice ca cn cc)) := Lib.hid
    ⟨(l3.cell (p := ⟨w.heap.size, 0, none⟩) l0).trans x0, (l3.cell (p := ⟨w.heap.size, 1, none⟩) l0).trans x1, (l3.cell (p := ⟨w.heap.size, 2, none⟩) l0).trans x2, (l3.cell (p := ⟨w.heap.size, 3, none⟩) l0).trans x3, (l3.cell (p := ⟨w.heap.size, 4, none⟩) l0).trans x4, (l3.cell (p := ⟨w.heap.size, 5, none⟩) l0).trans x5⟩
  have z4 := X4.out.2.2.2.2.1
  have z5 := X4.out.2.2.2.2.2
  clear l3 x0 x1 x2 x3 x4 x5 y0 y1 y2 y3 y4 y5 hkcell hncell hka hna LK NA HB1 HB2 HB12 HB13 HO2 HX0 HXS l0
  refine Lib.hid ?_
  by_cases hb1 : 64 < sn
  · have HF := Lib.hid (HNO.out (fun g => by have := (HGD.out.1 g).1; rw [HSN.out] at this; omega))
    have hd1 : decide ((64 : Int) < (sn : Int)) = true := decide_eq_true (by omega)
    clear HNO HYES HGD
    go_wp2
    go_ret
    exact ⟨retb HF.out, HB3.out⟩
  by_cases hb2 : cn < 1
  · have HF := Lib.hid (HNO.out (fun g => by have := (HGD.out.1 g).2.1; rw [HCN.out] at this; omega))
    have hd1 : decide ((64 : Int) < (sn : Int)) = false := decide_eq_false (by omega)
    clear HNO HYES HGD
    go_wp2
    go_ret
    exact ⟨retb HF.out, HB3.out⟩
  by_cases hb3 : 64 < cn
  · have HF := Lib.hid (HNO.out (fun g => by have := (HGD.out.1 g).2.2.1; rw [HCN.out] at this; omega))
    have hd1 : decide ((64 : Int) < (sn : Int)) = false := decide_eq_false (by omega)
    clear HNO HYES HGD
    go_wp2
    go_ret
    exact ⟨retb HF.out, HB3.out⟩
  have hd1 : decide ((64 : Int) < (sn : Int)) = false := decide_eq_false (by omega)
  have hd2 : decide ((cn : Int) < 1) = false := decide_eq_false (by omega)
  have hd3 : decide ((64 : Int) < (cn : Int)) = false := decide_eq_false (by omega)
  go_wp2
  go_loopw [5] (fun i wr => ∃ k : Nat, k ≤ sn + 1 ∧ i = .int .i64 k ∧ Hid (∀ (j : Nat) a b, j < k → (linksA x)[j]? = some a → (namesA x)[j]? = some b → stepL x j a b) ∧ Hid (Below w3.heap.size w3 wr)) (fun i _ => sn + 1 - (intOf i).toNat)
  case atStart => exact ⟨0, by omega, rfl, Lib.hid (fun j a b hj => by omega), Lib.hid (Below.refl _ _)⟩
  case round =>
    obtain ⟨k, hk, rfl, H, HB⟩ := hrel
    have hsz := HB.out.size
    by_cases hlt : k < sn + 1
    · obtain ⟨K, hK⟩ : ∃ K, (linksA x)[k]? = some K := ⟨_, List.getElem?_eq_getElem (by rw [HLL.out, HSN.out]; exact hlt)⟩
      obtain ⟨N, hN⟩ : ∃ N, (namesA x)[k]? = some N := ⟨_, List.getElem?_eq_getElem (by rw [HNL.out, HSN.out]; exact hlt)⟩
      have c0 := (HB.out.cell (p := ⟨kb, ko + k, none⟩) hkb).trans (HKC.out k K hK)
      have c1 := (HB.out.cell (p := ⟨nb, no + k, none⟩) hnb).trans (HNC.out k N hN)
      have PL := fun W => placeZ_ref (⟨K.toArray⟩ : ByteArray) (by rw [sizeOf, bytesOf]; exact links_small HS.out K (List.mem_of_getElem? hK)) W
      have NM := fun W => name_ref (⟨N.toArray⟩ : ByteArray) (by rw [sizeOf, bytesOf]; exact names_small HS.out N (List.mem_of_getElem? hN)) W
      have HA := fun W (hb : Below w3.heap.size w3 W) => has_any _ ((linksA x).take k) (by rw [List.length_take]; omega) (⟨K.toArray⟩ : ByteArray) W ((HoldT.upto HO23.out k (by omega)).on hb)
      have HN := fun W (hb : Below w3.heap.size w3 W) => has_any _ ((namesA x).take k) (by rw [List.length_take]; omega) (⟨N.toArray⟩ : ByteArray) W ((HoldT.upto HO3.out k (by omega)).on hb)
      rw [bytesOf] at PL NM HA HN
      have HBAD : Hid (¬ stepL x k K N → false = R) := Lib.hid (fun g => HNO.out (fun q => g ((HGD.out.1 q).2.2.2.1 k K N hK hN)))
      have HNEXT : Hid (stepL x k K N → ∀ (j : Nat) a b, j < k + 1 → (linksA x)[j]? = some a → (namesA x)[j]? = some b → stepL x j a b) := Lib.hid (fun g j a b hj ha hb => by
        by_cases e : j = k
        · subst e; rw [hK] at ha; rw [hN] at hb; cases ha; cases hb; exact g
        · exact H.out j a b (by omega) ha hb)
      have j0 : (0 : Int) ≤ (k : Int) := by omega
      have j1 : (k : Int) < (sn : Int) + 1 := by omega
      have j2 : (k : Int) ≤ (kc : Int) := by omega
      have j3 : (k : Int) ≤ (nc : Int) := by omega
      have hs := And.intro c0 (And.intro c1 HB.out)
      obtain ⟨XK, hXK⟩ : ∃ q : ByteArray, (⟨K.toArray⟩ : ByteArray) = q := ⟨_, rfl⟩
      obtain ⟨XN, hXN⟩ : ∃ q : ByteArray, (⟨N.toArray⟩ : ByteArray) = q := ⟨_, rfl⟩
      have HNB : Hid (XN.data.toList = N) := Lib.hid (by rw [← hXN])
      rw [hXK, hXN] at hs
      rw [hXK] at PL HA
      rw [hXN] at NM HN
      clear c0 c1 hXK hXN H
      cases hp : plZ K
      · have HF := Lib.hid (HBAD.out (fun g => by have := g.1; rw [hp] at this; cases this))
        simp only [hp] at PL
        clear hp HBAD HNEXT HA HN NM hK hN
        go_wp2
        have BE := fun (V : World) (h : V.cell? ⟨kb, ko + k, none⟩ = some (.string XK) ∧ V.cell? ⟨nb, no + k, none⟩ = some (.string XN) ∧ Below w3.heap.size w3 V) => AtF.be (w := w3) (l := [(⟨kb, ko + k, none⟩, .string XK), (⟨nb, no + k, none⟩, .string XN)]) h
        refine wp_region_held_drew (S := (fun V => V.cell? ⟨kb, ko + k, none⟩ = some (.string XK) ∧ V.cell? ⟨nb, no + k, none⟩ = some (.string XN) ∧ Below w3.heap.size w3 V)) (by kernel_rfl) ?_ (fun hHeld => ?_)
        · (try dsimp only); (first | assumption | exact hs | exact AtF.dr (w := w3) (l := [(⟨kb, ko + k, none⟩, .string XK), (⟨nb, no + k, none⟩, .string XN)]) hs | exact AtF.dr (w := w3) (l := [(⟨kb, ko + k, none⟩, .string XK), (⟨nb, no + k, none⟩, .string XN)]) (by assumption) | exact AtF.on (w := w3) (l := [(⟨kb, ko + k, none⟩, .string XK), (⟨nb, no + k, none⟩, .string XN)]) (by assumption) (by assumption) | exact AtF.al (w := w3) (l := [(⟨kb, ko + k, none⟩, .string XK), (⟨nb, no + k, none⟩, .string XN)]) (by assumption) _ | exact AtF.ald (w := w3) (l := [(⟨kb, ko + k, none⟩, .string XK), (⟨nb, no + k, none⟩, .string XN)]) (by assumption) _ | exact AtF.al (w := w3) (l := [(⟨kb, ko + k, none⟩, .string XK), (⟨nb, no + k, none⟩, .string XN)]) hs _ | exact AtF.ald (w := w3) (l := [(⟨kb, ko + k, none⟩, .string XK), (⟨nb, no + k, none⟩, .string XN)]) hs _)
        refine heldY 0 36 ?_ _ rfl rfl (by kernel_rfl) (by kernel_rfl) (by kernel_rfl) (fun _ _ _ h => h) rfl (by assumption) ?_ ?_
        rotate_left
        · (intro w hSw; (try dsimp only at hSw); go_simp; (try with_reducible rfl))
        try simp only [List.setIfInBounds_toArray, List.set_cons_zero, List.set_cons_succ]
        refine heldY 1 37 ?_ _ rfl rfl (by kernel_rfl) (by kernel_rfl) (by kernel_rfl) (fun _ _ _ h => h) rfl (by assumption) ?_ ?_
        rotate_left
        · (intro w hSw; (try dsimp only at hSw); go_simp; (try with_reducible rfl))
        try simp only [List.setIfInBounds_toArray, List.set_cons_zero, List.set_cons_succ]
        refine heldY 2 38 ?_ _ rfl rfl (by kernel_rfl) (by kernel_rfl) (by kernel_rfl) (fun _ _ _ h => h) rfl (by assumption) ?_ ?_
        rotate_left
        · (intro w hSw; (try dsimp only at hSw); go_simp; (try with_reducible rfl))
        try simp only [List.setIfInBounds_toArray, List.set_cons_zero, List.set_cons_succ]
        refine heldY 3 39 ?_ _ rfl rfl (by kernel_rfl) (by kernel_rfl) (by kernel_rfl) (fun _ _ _ h => h) rfl (by assumption) ?_ ?_
        rotate_left
        · (intro w hSw; (try dsimp only at hSw); go_simp; (try with_reducible rfl))
        try simp only [List.setIfInBounds_toArray, List.set_cons_zero, List.set_cons_succ]
        refine wpAnyH_ready (rs := [4]) (by kernel_rfl) (by simp) ?_
        refine AllReadyH.cons rfl (fun K hK => ?_) AllReadyH.nil
        go_simp
        first | (go_at_call 71; (with_reducible refine (PL _).mono ?_); rintro e w4 ⟨rfl, hb⟩) | (go_at_call 72; first | ((with_reducible refine (HA _ (BE _ (by assumption))).mono ?_); rintro e w4 ⟨rfl, rfl⟩) | ((with_reducible refine (HN _ (BE _ (by assumption))).mono ?_); rintro e w4 ⟨rfl, rfl⟩)) | (go_at_call 73; (with_reducible refine (NM _).mono ?_); rintro e w4 ⟨rfl, rfl⟩)
        refine hK.out _ _ ?_ (fun hHeld => ?_)
        · (try dsimp only); (first | assumption | exact hs | exact AtF.dr (w := w3) (l := [(⟨kb, ko + k, none⟩, .string XK), (⟨nb, no + k, none⟩, .string XN)]) hs | exact AtF.dr (w := w3) (l := [(⟨kb, ko + k, none⟩, .string XK), (⟨nb, no + k, none⟩, .string XN)]) (by assumption) | exact AtF.on (w := w3) (l := [(⟨kb, ko + k, none⟩, .string XK), (⟨nb, no + k, none⟩, .string XN)]) (by assumption) (by assumption) | exact AtF.al (w := w3) (l := [(⟨kb, ko + k, none⟩, .string XK), (⟨nb, no + k, none⟩, .string XN)]) (by assumption) _ | exact AtF.ald (w := w3) (l := [(⟨kb, ko + k, none⟩, .string XK), (⟨nb, no + k, none⟩, .string XN)]) (by assumption) _ | exact AtF.al (w := w3) (l := [(⟨kb, ko + k, none⟩, .string XK), (⟨nb, no + k, none⟩, .string XN)]) hs _ | exact AtF.ald (w := w3) (l := [(⟨kb, ko + k, none⟩, .string XK), (⟨nb, no + k, none⟩, .string XN)]) hs _)
        clear hK K
        try simp only [Act.put, List.setIfInBounds_toArray, List.set_cons_zero, List.set_cons_succ]
        refine heldY 5 41 ?_ _ rfl rfl (by kernel_rfl) (by kernel_rfl) (by kernel_rfl) (fun _ _ _ h => h) rfl (by assumption) ?_ ?_
        rotate_left
        · (intro w hSw; (try dsimp only at hSw); go_simp; (try with_reducible rfl))
        try simp only [List.setIfInBounds_toArray, List.set_cons_zero, List.set_cons_succ]
        refine heldY 6 42 ?_ _ rfl rfl (by kernel_rfl) (by kernel_rfl) (by kernel_rfl) (fun _ _ _ h => h) rfl (by assumption) ?_ ?_
        rotate_left
        · (intro w hSw; (try dsimp only at hSw); go_simp; (try with_reducible rfl))
        try simp only [List.setIfInBounds_toArray, List.set_cons_zero, List.set_cons_succ]
        refine heldNo 7 43 rfl (by kernel_rfl) (by kernel_rfl) (by kernel_rfl) (fun _ _ _ h => h) rfl (by assumption) ?_
        try simp only [List.setIfInBounds_toArray, List.set_cons_zero, List.set_cons_succ]
        refine heldNo 8 44 rfl (by kernel_rfl) (by kernel_rfl) (by kernel_rfl) (fun _ _ _ h => h) rfl (by assumption) ?_
        try simp only [List.setIfInBounds_toArray, List.set_cons_zero, List.set_cons_succ]
        refine heldNo 9 45 rfl (by kernel_rfl) (by kernel_rfl) (by kernel_rfl) (fun _ _ _ h => h) rfl (by assumption) ?_
        try simp only [List.setIfInBounds_toArray, List.set_cons_zero, List.set_cons_succ]
        refine heldNo 10 46 rfl (by kernel_rfl) (by kernel_rfl) (by kernel_rfl) (fun _ _ _ h => h) rfl (by assumption) ?_
        try simp only [List.setIfInBounds_toArray, List.set_cons_zero, List.set_cons_succ]
        refine heldNo 11 47 rfl (by kernel_rfl) (by kernel_rfl) (by kernel_rfl) (fun _ _ _ h => h) rfl (by assumption) ?_
        try simp only [List.setIfInBounds_toArray, List.set_cons_zero, List.set_cons_succ]
        refine heldNo 12 48 rfl (by kernel_rfl) (by kernel_rfl) (by kernel_rfl) (fun _ _ _ h => h) rfl (by assumption) ?_
        try simp only [List.setIfInBounds_toArray, List.set_cons_zero, List.set_cons_succ]
        refine heldNo 13 49 rfl (by kernel_rfl) (by kernel_rfl) (by kernel_rfl) (fun _ _ _ h => h) rfl (by assumption) ?_
        try simp only [List.setIfInBounds_toArray, List.set_cons_zero, List.set_cons_succ]
        refine heldNo 14 50 rfl (by kernel_rfl) (by kernel_rfl) (by kernel_rfl) (fun _ _ _ h => h) rfl (by assumption) ?_
        try simp only [List.setIfInBounds_toArray, List.set_cons_zero, List.set_cons_succ]
        refine heldY 15 51 ?_ _ rfl rfl (by kernel_rfl) (by kernel_rfl) (by kernel_rfl) (fun _ _ _ h => h) rfl (by assumption) ?_ ?_
        rotate_left
        · (intro w hSw; (try dsimp only at hSw); go_simp; (try with_reducible rfl))
        try simp only [List.setIfInBounds_toArray, List.set_cons_zero, List.set_cons_succ]
        refine heldY 16 52 ?_ _ rfl rfl (by kernel_rfl) (by kernel_rfl) (by kernel_rfl) (fun _ _ _ h => h) rfl (by assumption) ?_ ?_
        rotate_left
        · (intro w hSw; (try dsimp only at hSw); go_simp; (try with_reducible rfl))
        try simp only [List.setIfInBounds_toArray, List.set_cons_zero, List.set_cons_succ]
        refine heldNo 17 53 rfl (by kernel_rfl) (by kernel_rfl) (by kernel_rfl) (fun _ _ _ h => h) rfl (by assumption) ?_
        try simp only [List.setIfInBounds_toArray, List.set_cons_zero, List.set_cons_succ]
        refine heldNo 18 54 rfl (by kernel_rfl) (by kernel_rfl) (by kernel_rfl) (fun _ _ _ h => h) rfl (by assumption) ?_
        try simp only [List.setIfInBounds_toArray, List.set_cons_zero, List.set_cons_succ]
        refine heldNo 19 55 rfl (by kernel_rfl) (by kernel_rfl) (by kernel_rfl) (fun _ _ _ h => h) rfl (by assumption) ?_
        try simp only [List.setIfInBounds_toArray, List.set_cons_zero, List.set_cons_succ]
        refine heldNo 20 56 rfl (by kernel_rfl) (by kernel_rfl) (by kernel_rfl) (fun _ _ _ h => h) rfl (by assumption) ?_
        try simp only [List.setIfInBounds_toArray, List.set_cons_zero, List.set_cons_succ]
        refine heldNo 21 57 rfl (by kernel_rfl) (by kernel_rfl) (by kernel_rfl) (fun _ _ _ h => h) rfl (by assumption) ?_
        try simp only [List.setIfInBounds_toArray, List.set_cons_zero, List.set_cons_succ]
        refine heldNo 22 58 rfl (by kernel_rfl) (by kernel_rfl) (by kernel_rfl) (fun _ _ _ h => h) rfl (by assumption) ?_
        try simp only [List.setIfInBounds_toArray, List.set_cons_zero, List.set_cons_succ]
        refine heldY 23 59 ?_ _ rfl rfl (by kernel_rfl) (by kernel_rfl) (by kernel_rfl) (fun _ _ _ h => h) rfl (by assumption) ?_ ?_
        rotate_left
        · (intro w hSw; (try dsimp only at hSw); go_simp; (try with_reducible rfl))
        try simp only [List.setIfInBounds_toArray, List.set_cons_zero, List.set_cons_succ]
        refine heldY 24 60 ?_ _ rfl rfl (by kernel_rfl) (by kernel_rfl) (by kernel_rfl) (fun _ _ _ h => h) rfl (by assumption) ?_ ?_
        rotate_left
        · (intro w hSw; (try dsimp only at hSw); go_simp; (try with_reducible rfl))
        try simp only [List.setIfInBounds_toArray, List.set_cons_zero, List.set_cons_succ]
        refine heldNo 25 61 rfl (by kernel_rfl) (by kernel_rfl) (by kernel_rfl) (fun _ _ _ h => h) rfl (by assumption) ?_
        try simp only [List.setIfInBounds_toArray, List.set_cons_zero, List.set_cons_succ]
        refine heldNo 26 62 rfl (by kernel_rfl) (by kernel_rfl) (by kernel_rfl) (fun _ _ _ h => h) rfl (by assumption) ?_
        try simp only [List.setIfInBounds_toArray, List.set_cons_zero, List.set_cons_succ]
        refine heldNo 27 63 rfl (by kernel_rfl) (by kernel_rfl) (by kernel_rfl) (fun _ _ _ h => h) rfl (by assumption) ?_
        try simp only [List.setIfInBounds_toArray, List.set_cons_zero, List.set_cons_succ]
        refine heldNo 28 64 rfl (by kernel_rfl) (by kernel_rfl) (by kernel_rfl) (fun _ _ _ h => h) rfl (by assumption) ?_
        try simp only [List.setIfInBounds_toArray, List.set_cons_zero, List.set_cons_succ]
        refine heldNo 29 65 rfl (by kernel_rfl) (by kernel_rfl) (by kernel_rfl) (fun _ _ _ h => h) rfl (by assumption) ?_
        try simp only [List.setIfInBounds_toArray, List.set_cons_zero, List.set_cons_succ]
        refine heldNo 30 66 rfl (by kernel_rfl) (by kernel_rfl) (by kernel_rfl) (fun _ _ _ h => h) rfl (by assumption) ?_
        try simp only [List.setIfInBounds_toArray, List.set_cons_zero, List.set_cons_succ]
        refine heldNo 31 67 rfl (by kernel_rfl) (by kernel_rfl) (by kernel_rfl) (fun _ _ _ h => h) rfl (by assumption) ?_
        try simp only [List.setIfInBounds_toArray, List.set_cons_zero, List.set_cons_succ]
        refine heldNo 32 68 rfl (by kernel_rfl) (by kernel_rfl) (by kernel_rfl) (fun _ _ _ h => h) rfl (by assumption) ?_
        try simp only [List.setIfInBounds_toArray, List.set_cons_zero, List.set_cons_succ]
        refine heldY 33 69 ?_ _ rfl rfl (by kernel_rfl) (by kernel_rfl) (by kernel_rfl) (fun _ _ _ h => h) rfl (by assumption) ?_ ?_
        rotate_left
        · (intro w hSw; (try dsimp only at hSw); go_simp; (try with_reducible rfl))
        try simp only [List.setIfInBounds_toArray, List.set_cons_zero, List.set_cons_succ]
        refine heldY 34 70 ?_ _ rfl rfl (by kernel_rfl) (by kernel_rfl) (by kernel_rfl) (fun _ _ _ h => h) rfl (by assumption) ?_ ?_
        rotate_left
        · (intro w hSw; (try dsimp only at hSw); go_simp; (try with_reducible rfl))
        try simp only [List.setIfInBounds_toArray, List.set_cons_zero, List.set_cons_succ]
        refine heldNo 35 71 rfl (by kernel_rfl) (by kernel_rfl) (by kernel_rfl) (fun _ _ _ h => h) rfl (by assumption) ?_
        try simp only [List.setIfInBounds_toArray, List.set_cons_zero, List.set_cons_succ]
        refine heldNo 36 72 rfl (by kernel_rfl) (by kernel_rfl) (by kernel_rfl) (fun _ _ _ h => h) rfl (by assumption) ?_
        try simp only [List.setIfInBounds_toArray, List.set_cons_zero, List.set_cons_succ]
        refine heldNo 37 73 rfl (by kernel_rfl) (by kernel_rfl) (by kernel_rfl) (fun _ _ _ h => h) rfl (by assumption) ?_
        try simp only [List.setIfInBounds_toArray, List.set_cons_zero, List.set_cons_succ]
        refine heldNo 38 74 rfl (by kernel_rfl) (by kernel_rfl) (by kernel_rfl) (fun _ _ _ h => h) rfl (by assumption) ?_
        try simp only [List.setIfInBounds_toArray, List.set_cons_zero, List.set_cons_succ]
        refine heldNo 39 75 rfl (by kernel_rfl) (by kernel_rfl) (by kernel_rfl) (fun _ _ _ h => h) rfl (by assumption) ?_
        try simp only [List.setIfInBounds_toArray, List.set_cons_zero, List.set_cons_succ]
        refine heldNo 40 76 rfl (by kernel_rfl) (by kernel_rfl) (by kernel_rfl) (fun _ _ _ h => h) rfl (by assumption) ?_
        try simp only [List.setIfInBounds_toArray, List.set_cons_zero, List.set_cons_succ]
        refine heldNo 41 77 rfl (by kernel_rfl) (by kernel_rfl) (by kernel_rfl) (fun _ _ _ h => h) rfl (by assumption) ?_
        try simp only [List.setIfInBounds_toArray, List.set_cons_zero, List.set_cons_succ]
        refine heldNo 42 78 rfl (by kernel_rfl) (by kernel_rfl) (by kernel_rfl) (fun _ _ _ h => h) rfl (by assumption) ?_
        try simp only [List.setIfInBounds_toArray, List.set_cons_zero, List.set_cons_succ]
        refine heldNo 43 79 rfl (by kernel_rfl) (by kernel_rfl) (by kernel_rfl) (fun _ _ _ h => h) rfl (by assumption) ?_
        try simp only [List.setIfInBounds_toArray, List.set_cons_zero, List.set_cons_succ]
        refine heldNo 44 80 rfl (by kernel_rfl) (by kernel_rfl) (by kernel_rfl) (fun _ _ _ h => h) rfl (by assumption) ?_
        try simp only [List.setIfInBounds_toArray, List.set_cons_zero, List.set_cons_succ]
        refine heldNo 45 81 rfl (by kernel_rfl) (by kernel_rfl) (by kernel_rfl) (fun _ _ _ h => h) rfl (by assumption) ?_
        try simp only [List.setIfInBounds_toArray, List.set_cons_zero, List.set_cons_succ]
        refine heldNo 46 82 rfl (by kernel_rfl) (by kernel_rfl) (by kernel_rfl) (fun _ _ _ h => h) rfl (by assumption) ?_
        try simp only [List.setIfInBounds_toArray, List.set_cons_zero, List.set_cons_succ]
        refine heldNo 47 83 rfl (by kernel_rfl) (by kernel_rfl) (by kernel_rfl) (fun _ _ _ h => h) rfl (by assumption) ?_
        try simp only [List.setIfInBounds_toArray, List.set_cons_zero, List.set_cons_succ]
        refine heldNo 48 84 rfl (by kernel_rfl) (by kernel_rfl) (by kernel_rfl) (fun _ _ _ h => h) rfl (by assumption) ?_
        try simp only [List.setIfInBounds_toArray, List.set_cons_zero, List.set_cons_succ]
        refine heldY 49 85 ?_ _ rfl rfl (by kernel_rfl) (by kernel_rfl) (by kernel_rfl) (fun _ _ _ h => h) rfl (by assumption) ?_ ?_
        rotate_left
        · (intro w hSw; (try dsimp only at hSw); go_simp; (try with_reducible rfl))
        try simp only [List.setIfInBounds_toArray, List.set_cons_zero, List.set_cons_succ]
        refine wpAnyH_done (by kernel_rfl) ?_ _
        have HW4 := Lib.hid (BE _ hHeld)
        clear hHeld
        go_wp2
        go_ret
        exact ⟨retb HF.out, HB3.out.trans (HW4.out.mono HB3.out.size)⟩
      · simp only [hp] at PL
        by_cases h1 : K ∈ (linksA x).take k
        · have HF := Lib.hid (HBAD.out (fun g => g.2.1 h1))
          simp only [decide_eq_true h1] at HA
          clear hp h1 HBAD HNEXT HN NM hK hN
          go_wp2
          have BE := fun (V : World) (h : V.cell? ⟨kb, ko + k, none⟩ = some (.string XK) ∧ V.cell? ⟨nb, no + k, none⟩ = some (.string XN) ∧ Below w3.heap.size w3 V) => AtF.be (w := w3) (l := [(⟨kb, ko + k, none⟩, .string XK), (⟨nb, no + k, none⟩, .string XN)]) h
          refine wp_region_held_drew (S := (fun V => V.cell? ⟨kb, ko + k, none⟩ = some (.string XK) ∧ V.cell? ⟨nb, no + k, none⟩ = some (.string XN) ∧ Below w3.heap.size w3 V)) (by kernel_rfl) ?_ (fun hHeld => ?_)
          · (try dsimp only); (first | assumption | exact hs | exact AtF.dr (w := w3) (l := [(⟨kb, ko + k, none⟩, .string XK), (⟨nb, no + k, none⟩, .string XN)]) hs | exact AtF.dr (w := w3) (l := [(⟨kb, ko + k, none⟩, .string XK), (⟨nb, no + k, none⟩, .string XN)]) (by assumption) | exact AtF.on (w := w3) (l := [(⟨kb, ko + k, none⟩, .string XK), (⟨nb, no + k, none⟩, .string XN)]) (by assumption) (by assumption) | exact AtF.al (w := w3) (l := [(⟨kb, ko + k, none⟩, .string XK), (⟨nb, no + k, none⟩, .string XN)]) (by assumption) _ | exact AtF.ald (w := w3) (l := [(⟨kb, ko + k, none⟩, .string XK), (⟨nb, no + k, none⟩, .string XN)]) (by assumption) _ | exact AtF.al (w := w3) (l := [(⟨kb, ko + k, none⟩, .string XK), (⟨nb, no + k, none⟩, .string XN)]) hs _ | exact AtF.ald (w := w3) (l := [(⟨kb, ko + k, none⟩, .string XK), (⟨nb, no + k, none⟩, .string XN)]) hs _)
          refine heldY 0 36 ?_ _ rfl rfl (by kernel_rfl) (by kernel_rfl) (by kernel_rfl) (fun _ _ _ h => h) rfl (by assumption) ?_ ?_
          rotate_left
          · (intro w hSw; (try dsimp only at hSw); go_simp; (try with_reducible rfl))
          try simp only [List.setIfInBounds_toArray, List.set_cons_zero, List.set_cons_succ]
          refine heldY 1 37 ?_ _ rfl rfl (by kernel_rfl) (by kernel_rfl) (by kernel_rfl) (fun _ _ _ h => h) rfl (by assumption) ?_ ?_
          rotate_left
          · (intro w hSw; (try dsimp only at hSw); go_simp; (try with_reducible rfl))
          try simp only [List.setIfInBounds_toArray, List.set_cons_zero, List.set_cons_succ]
          refine heldY 2 38 ?_ _ rfl rfl (by kernel_rfl) (by kernel_rfl) (by kernel_rfl) (fun _ _ _ h => h) rfl (by assumption) ?_ ?_
          rotate_left
          · (intro w hSw; (try dsimp only at hSw); go_simp; (try with_reducible rfl))
          try simp only [List.setIfInBounds_toArray, List.set_cons_zero, List.set_cons_succ]
          refine heldY 3 39 ?_ _ rfl rfl (by kernel_rfl) (by kernel_rfl) (by kernel_rfl) (fun _ _ _ h => h) rfl (by assumption) ?_ ?_
          rotate_left
          · (intro w hSw; (try dsimp only at hSw); go_simp; (try with_reducible rfl))
          try simp only [List.setIfInBounds_toArray, List.set_cons_zero, List.set_cons_succ]
          refine wpAnyH_ready (rs := [4]) (by kernel_rfl) (by simp) ?_
          refine AllReadyH.cons rfl (fun K hK => ?_) AllReadyH.nil
          go_simp
          first | (go_at_call 71; (with_reducible refine (PL _).mono ?_); rintro e w4 ⟨rfl, hb⟩) | (go_at_call 72; first | ((with_reducible refine (HA _ (BE _ (by assumption))).mono ?_); rintro e w4 ⟨rfl, rfl⟩) | ((with_reducible refine (HN _ (BE _ (by assumption))).mono ?_); rintro e w4 ⟨rfl, rfl⟩)) | (go_at_call 73; (with_reducible refine (NM _).mono ?_); rintro e w4 ⟨rfl, rfl⟩)
          refine hK.out _ _ ?_ (fun hHeld => ?_)
          · (try dsimp only); (first | assumption | exact hs | exact AtF.dr (w := w3) (l := [(⟨kb, ko + k, none⟩, .string XK), (⟨nb, no + k, none⟩, .string XN)]) hs | exact AtF.dr (w := w3) (l := [(⟨kb, ko + k, none⟩, .string XK), (⟨nb, no + k, none⟩, .string XN)]) (by assumption) | exact AtF.on (w := w3) (l := [(⟨kb, ko + k, none⟩, .string XK), (⟨nb, no + k, none⟩, .string XN)]) (by assumption) (by assumption) | exact AtF.al (w := w3) (l := [(⟨kb, ko + k, none⟩, .string XK), (⟨nb, no + k, none⟩, .string XN)]) (by assumption) _ | exact AtF.ald (w := w3) (l := [(⟨kb, ko + k, none⟩, .string XK), (⟨nb, no + k, none⟩, .string XN)]) (by assumption) _ | exact AtF.al (w := w3) (l := [(⟨kb, ko + k, none⟩, .string XK), (⟨nb, no + k, none⟩, .string XN)]) hs _ | exact AtF.ald (w := w3) (l := [(⟨kb, ko + k, none⟩, .string XK), (⟨nb, no + k, none⟩, .string XN)]) hs _)
          clear hK K
          try simp only [Act.put, List.setIfInBounds_toArray, List.set_cons_zero, List.set_cons_succ]
          refine heldY 5 41 ?_ _ rfl rfl (by kernel_rfl) (by kernel_rfl) (by kernel_rfl) (fun _ _ _ h => h) rfl (by assumption) ?_ ?_
          rotate_left
          · (intro w hSw; (try dsimp only at hSw); go_simp; (try with_reducible rfl))
          try simp only [List.setIfInBounds_toArray, List.set_cons_zero, List.set_cons_succ]
          refine heldY 6 42 ?_ _ rfl rfl (by kernel_rfl) (by kernel_rfl) (by kernel_rfl) (fun _ _ _ h => h) rfl (by assumption) ?_ ?_
          rotate_left
          · (intro w hSw; (try dsimp only at hSw); go_simp; (try with_reducible rfl))
          try simp only [List.setIfInBounds_toArray, List.set_cons_zero, List.set_cons_succ]
          refine heldY 7 43 ?_ _ rfl rfl (by kernel_rfl) (by kernel_rfl) (by kernel_rfl) (fun _ _ _ h => h) rfl (by assumption) ?_ ?_
          rotate_left
          · (intro w hSw; (try dsimp only at hSw); go_simp; (try with_reducible rfl))
          try simp only [List.setIfInBounds_toArray, List.set_cons_zero, List.set_cons_succ]
          refine heldY 8 44 ?_ _ rfl rfl (by kernel_rfl) (by kernel_rfl) (by kernel_rfl) (fun _ _ _ h => h) rfl (by assumption) ?_ ?_
          rotate_left
          · (intro w hSw; (try dsimp only at hSw); go_simp; (try with_reducible rfl))
          try simp only [List.setIfInBounds_toArray, List.set_cons_zero, List.set_cons_succ]
          refine heldY 9 45 ?_ _ rfl rfl (by kernel_rfl) (by kernel_rfl) (by kernel_rfl) (fun _ _ _ h => h) rfl (by assumption) ?_ ?_
          rotate_left
          · (intro w hSw; (try dsimp only at hSw); go_simp; (try with_reducible rfl))
          try simp only [List.setIfInBounds_toArray, List.set_cons_zero, List.set_cons_succ]
          refine heldY 10 46 ?_ _ rfl rfl (by kernel_rfl) (by kernel_rfl) (by kernel_rfl) (fun _ _ _ h => h) rfl (by assumption) ?_ ?_
          rotate_left
          · (intro w hSw; (try dsimp only at hSw); go_simp; (try with_reducible rfl))
          try simp only [List.setIfInBounds_toArray, List.set_cons_zero, List.set_cons_succ]
          refine heldY 11 47 ?_ _ rfl rfl (by kernel_rfl) (by kernel_rfl) (by kernel_rfl) (fun _ _ _ h => h) rfl (by assumption) ?_ ?_
          rotate_left
          · (intro w hSw; (try dsimp only at hSw); go_simp; (try with_reducible rfl))
          try simp only [List.setIfInBounds_toArray, List.set_cons_zero, List.set_cons_succ]
          refine heldY 12 48 ?_ _ rfl rfl (by kernel_rfl) (by kernel_rfl) (by kernel_rfl) (fun _ _ _ h => h) rfl (by assumption) ?_ ?_
          rotate_left
          · (intro w hSw; (try dsimp only at hSw); go_simp; (try with_reducible rfl))
          try simp only [List.setIfInBounds_toArray, List.set_cons_zero, List.set_cons_succ]
          refine heldY 13 49 ?_ _ rfl rfl (by kernel_rfl) (by kernel_rfl) (by kernel_rfl) (fun _ _ _ h => h) rfl (by assumption) ?_ ?_
          rotate_left
          · (intro w hSw; (try dsimp only at hSw); go_simp; (try with_reducible rfl))
          try simp only [List.setIfInBounds_toArray, List.set_cons_zero, List.set_cons_succ]
          refine wpAnyH_ready (rs := [14]) (by kernel_rfl) (by simp) ?_
          refine AllReadyH.cons rfl (fun K hK => ?_) AllReadyH.nil
          go_simp
          first | (go_at_call 71; (with_reducible refine (PL _).mono ?_); rintro e w4 ⟨rfl, hb⟩) | (go_at_call 72; first | ((with_reducible refine (HA _ (BE _ (by assumption))).mono ?_); rintro e w4 ⟨rfl, rfl⟩) | ((with_reducible refine (HN _ (BE _ (by assumption))).mono ?_); rintro e w4 ⟨rfl, rfl⟩)) | (go_at_call 73; (with_reducible refine (NM _).mono ?_); rintro e w4 ⟨rfl, rfl⟩)
          refine hK.out _ _ ?_ (fun hHeld => ?_)
          · (try dsimp only); (first | assumption | exact hs | exact AtF.dr (w := w3) (l := [(⟨kb, ko + k, none⟩, .string XK), (⟨nb, no + k, none⟩, .string XN)]) hs | exact AtF.dr (w := w3) (l := [(⟨kb, ko + k, none⟩, .string XK), (⟨nb, no + k, none⟩, .string XN)]) (by assumption) | exact AtF.on (w := w3) (l := [(⟨kb, ko + k, none⟩, .string XK), (⟨nb, no + k, none⟩, .string XN)]) (by assumption) (by assumption) | exact AtF.al (w := w3) (l := [(⟨kb, ko + k, none⟩, .string XK), (⟨nb, no + k, none⟩, .string XN)]) (by assumption) _ | exact AtF.ald (w := w3) (l := [(⟨kb, ko + k, none⟩, .string XK), (⟨nb, no + k, none⟩, .string XN)]) (by assumption) _ | exact AtF.al (w := w3) (l := [(⟨kb, ko + k, none⟩, .string XK), (⟨nb, no + k, none⟩, .string XN)]) hs _ | exact AtF.ald (w := w3) (l := [(⟨kb, ko + k, none⟩, .string XK), (⟨nb, no + k, none⟩, .string XN)]) hs _)
          clear hK K
          try simp only [Act.put, List.setIfInBounds_toArray, List.set_cons_zero, List.set_cons_succ]
          refine heldY 15 51 ?_ _ rfl rfl (by kernel_rfl) (by kernel_rfl) (by kernel_rfl) (fun _ _ _ h => h) rfl (by assumption) ?_ ?_
          rotate_left
          · (intro w hSw; (try dsimp only at hSw); go_simp; (try with_reducible rfl))
          try simp only [List.setIfInBounds_toArray, List.set_cons_zero, List.set_cons_succ]
          refine heldY 16 52 ?_ _ rfl rfl (by kernel_rfl) (by kernel_rfl) (by kernel_rfl) (fun _ _ _ h => h) rfl (by assumption) ?_ ?_
          rotate_left
          · (intro w hSw; (try dsimp only at hSw); go_simp; (try with_reducible rfl))
          try simp only [List.setIfInBounds_toArray, List.set_cons_zero, List.set_cons_succ]
          refine heldNo 17 53 rfl (by kernel_rfl) (by kernel_rfl) (by kernel_rfl) (fun _ _ _ h => h) rfl (by assumption) ?_
          try simp only [List.setIfInBounds_toArray, List.set_cons_zero, List.set_cons_succ]
          refine heldNo 18 54 rfl (by kernel_rfl) (by kernel_rfl) (by kernel_rfl) (fun _ _ _ h => h) rfl (by assumption) ?_
          try simp only [List.setIfInBounds_toArray, List.set_cons_zero, List.set_cons_succ]
          refine heldNo 19 55 rfl (by kernel_rfl) (by kernel_rfl) (by kernel_rfl) (fun _ _ _ h => h) rfl (by assumption) ?_
          try simp only [List.setIfInBounds_toArray, List.set_cons_zero, List.set_cons_succ]
          refine heldNo 20 56 rfl (by kernel_rfl) (by kernel_rfl) (by kernel_rfl) (fun _ _ _ h => h) rfl (by assumption) ?_
          try simp only [List.setIfInBounds_toArray, List.set_cons_zero, List.set_cons_succ]
          refine heldNo 21 57 rfl (by kernel_rfl) (by kernel_rfl) (by kernel_rfl) (fun _ _ _ h => h) rfl (by assumption) ?_
          try simp only [List.setIfInBounds_toArray, List.set_cons_zero, List.set_cons_succ]
          refine heldNo 22 58 rfl (by kernel_rfl) (by kernel_rfl) (by kernel_rfl) (fun _ _ _ h => h) rfl (by assumption) ?_
          try simp only [List.setIfInBounds_toArray, List.set_cons_zero, List.set_cons_succ]
          refine heldY 23 59 ?_ _ rfl rfl (by kernel_rfl) (by kernel_rfl) (by kernel_rfl) (fun _ _ _ h => h) rfl (by assumption) ?_ ?_
          rotate_left
          · (intro w hSw; (try dsimp only at hSw); go_simp; (try with_reducible rfl))
          try simp only [List.setIfInBounds_toArray, List.set_cons_zero, List.set_cons_succ]
          refine heldY 24 60 ?_ _ rfl rfl (by kernel_rfl) (by kernel_rfl) (by kernel_rfl) (fun _ _ _ h => h) rfl (by assumption) ?_ ?_
          rotate_left
          · (intro w hSw; (try dsimp only at hSw); go_simp; (try with_reducible rfl))
          try simp only [List.setIfInBounds_toArray, List.set_cons_zero, List.set_cons_succ]
          refine heldNo 25 61 rfl (by kernel_rfl) (by kernel_rfl) (by kernel_rfl) (fun _ _ _ h => h) rfl (by assumption) ?_
          try simp only [List.setIfInBounds_toArray, List.set_cons_zero, List.set_cons_succ]
          refine heldNo 26 62 rfl (by kernel_rfl) (by kernel_rfl) (by kernel_rfl) (fun _ _ _ h => h) rfl (by assumption) ?_
          try simp only [List.setIfInBounds_toArray, List.set_cons_zero, List.set_cons_succ]
          refine heldNo 27 63 rfl (by kernel_rfl) (by kernel_rfl) (by kernel_rfl) (fun _ _ _ h => h) rfl (by assumption) ?_
          try simp only [List.setIfInBounds_toArray, List.set_cons_zero, List.set_cons_succ]
          refine heldNo 28 64 rfl (by kernel_rfl) (by kernel_rfl) (by kernel_rfl) (fun _ _ _ h => h) rfl (by assumption) ?_
          try simp only [List.setIfInBounds_toArray, List.set_cons_zero, List.set_cons_succ]
          refine heldNo 29 65 rfl (by kernel_rfl) (by kernel_rfl) (by kernel_rfl) (fun _ _ _ h => h) rfl (by assumption) ?_
          try simp only [List.setIfInBounds_toArray, List.set_cons_zero, List.set_cons_succ]
          refine heldNo 30 66 rfl (by kernel_rfl) (by kernel_rfl) (by kernel_rfl) (fun _ _ _ h => h) rfl (by assumption) ?_
          try simp only [List.setIfInBounds_toArray, List.set_cons_zero, List.set_cons_succ]
          refine heldNo 31 67 rfl (by kernel_rfl) (by kernel_rfl) (by kernel_rfl) (fun _ _ _ h => h) rfl (by assumption) ?_
          try simp only [List.setIfInBounds_toArray, List.set_cons_zero, List.set_cons_succ]
          refine heldNo 32 68 rfl (by kernel_rfl) (by kernel_rfl) (by kernel_rfl) (fun _ _ _ h => h) rfl (by assumption) ?_
          try simp only [List.setIfInBounds_toArray, List.set_cons_zero, List.set_cons_succ]
          refine heldY 33 69 ?_ _ rfl rfl (by kernel_rfl) (by kernel_rfl) (by kernel_rfl) (fun _ _ _ h => h) rfl (by assumption) ?_ ?_
          rotate_left
          · (intro w hSw; (try dsimp only at hSw); go_simp; (try with_reducible rfl))
          try simp only [List.setIfInBounds_toArray, List.set_cons_zero, List.set_cons_succ]
          refine heldY 34 70 ?_ _ rfl rfl (by kernel_rfl) (by kernel_rfl) (by kernel_rfl) (fun _ _ _ h => h) rfl (by assumption) ?_ ?_
          rotate_left
          · (intro w hSw; (try dsimp only at hSw); go_simp; (try with_reducible rfl))
          try simp only [List.setIfInBounds_toArray, List.set_cons_zero, List.set_cons_succ]
          refine heldNo 35 71 rfl (by kernel_rfl) (by kernel_rfl) (by kernel_rfl) (fun _ _ _ h => h) rfl (by assumption) ?_
          try simp only [List.setIfInBounds_toArray, List.set_cons_zero, List.set_cons_succ]
          refine heldNo 36 72 rfl (by kernel_rfl) (by kernel_rfl) (by kernel_rfl) (fun _ _ _ h => h) rfl (by assumption) ?_
          try simp only [List.setIfInBounds_toArray, List.set_cons_zero, List.set_cons_succ]
          refine heldNo 37 73 rfl (by kernel_rfl) (by kernel_rfl) (by kernel_rfl) (fun _ _ _ h => h) rfl (by assumption) ?_
          try simp only [List.setIfInBounds_toArray, List.set_cons_zero, List.set_cons_succ]
          refine heldNo 38 74 rfl (by kernel_rfl) (by kernel_rfl) (by kernel_rfl) (fun _ _ _ h => h) rfl (by assumption) ?_
          try simp only [List.setIfInBounds_toArray, List.set_cons_zero, List.set_cons_succ]
          refine heldNo 39 75 rfl (by kernel_rfl) (by kernel_rfl) (by kernel_rfl) (fun _ _ _ h => h) rfl (by assumption) ?_
          try simp only [List.setIfInBounds_toArray, List.set_cons_zero, List.set_cons_succ]
          refine heldNo 40 76 rfl (by kernel_rfl) (by kernel_rfl) (by kernel_rfl) (fun _ _ _ h => h) rfl (by assumption) ?_
          try simp only [List.setIfInBounds_toArray, List.set_cons_zero, List.set_cons_succ]
          refine heldNo 41 77 rfl (by kernel_rfl) (by kernel_rfl) (by kernel_rfl) (fun _ _ _ h => h) rfl (by assumption) ?_
          try simp only [List.setIfInBounds_toArray, List.set_cons_zero, List.set_cons_succ]
          refine heldNo 42 78 rfl (by kernel_rfl) (by kernel_rfl) (by kernel_rfl) (fun _ _ _ h => h) rfl (by assumption) ?_
          try simp only [List.setIfInBounds_toArray, List.set_cons_zero, List.set_cons_succ]
          refine heldNo 43 79 rfl (by kernel_rfl) (by kernel_rfl) (by kernel_rfl) (fun _ _ _ h => h) rfl (by assumption) ?_
          try simp only [List.setIfInBounds_toArray, List.set_cons_zero, List.set_cons_succ]
          refine heldNo 44 80 rfl (by kernel_rfl) (by kernel_rfl) (by kernel_rfl) (fun _ _ _ h => h) rfl (by assumption) ?_
          try simp only [List.setIfInBounds_toArray, List.set_cons_zero, List.set_cons_succ]
          refine heldNo 45 81 rfl (by kernel_rfl) (by kernel_rfl) (by kernel_rfl) (fun _ _ _ h => h) rfl (by assumption) ?_
          try simp only [List.setIfInBounds_toArray, List.set_cons_zero, List.set_cons_succ]
          refine heldNo 46 82 rfl (by kernel_rfl) (by kernel_rfl) (by kernel_rfl) (fun _ _ _ h => h) rfl (by assumption) ?_
          try simp only [List.setIfInBounds_toArray, List.set_cons_zero, List.set_cons_succ]
          refine heldNo 47 83 rfl (by kernel_rfl) (by kernel_rfl) (by kernel_rfl) (fun _ _ _ h => h) rfl (by assumption) ?_
          try simp only [List.setIfInBounds_toArray, List.set_cons_zero, List.set_cons_succ]
          refine heldNo 48 84 rfl (by kernel_rfl) (by kernel_rfl) (by kernel_rfl) (fun _ _ _ h => h) rfl (by assumption) ?_
          try simp only [List.setIfInBounds_toArray, List.set_cons_zero, List.set_cons_succ]
          refine heldY 49 85 ?_ _ rfl rfl (by kernel_rfl) (by kernel_rfl) (by kernel_rfl) (fun _ _ _ h => h) rfl (by assumption) ?_ ?_
          rotate_left
          · (intro w hSw; (try dsimp only at hSw); go_simp; (try with_reducible rfl))
          try simp only [List.setIfInBounds_toArray, List.set_cons_zero, List.set_cons_succ]
          refine wpAnyH_done (by kernel_rfl) ?_ _
          have HW4 := Lib.hid (BE _ hHeld)
          clear hHeld
          go_wp2
          go_ret
          exact ⟨retb HF.out, HB3.out.trans (HW4.out.mono HB3.out.size)⟩
        · simp only [decide_eq_false h1] at HA
          cases hq : nameB N
          · have HF := Lib.hid (HBAD.out (fun g => by have := g.2.2.1; rw [hq] at this; cases this))
            simp only [hq] at NM
            clear hp h1 hq HBAD HNEXT HN hK hN
            go_wp2
            have BE := fun (V : World) (h : V.cell? ⟨kb, ko + k, none⟩ = some (.string XK) ∧ V.cell? ⟨nb, no + k, none⟩ = some (.string XN) ∧ Below w3.heap.size w3 V) => AtF.be (w := w3) (l := [(⟨kb, ko + k, none⟩, .string XK), (⟨nb, no + k, none⟩, .string XN)]) h
            refine wp_region_held_drew (S := (fun V => V.cell? ⟨kb, ko + k, none⟩ = some (.string XK) ∧ V.cell? ⟨nb, no + k, none⟩ = some (.string XN) ∧ Below w3.heap.size w3 V)) (by kernel_rfl) ?_ (fun hHeld => ?_)
            · (try dsimp only); (first | assumption | exact hs | exact AtF.dr (w := w3) (l := [(⟨kb, ko + k, none⟩, .string XK), (⟨nb, no + k, none⟩, .string XN)]) hs | exact AtF.dr (w := w3) (l := [(⟨kb, ko + k, none⟩, .string XK), (⟨nb, no + k, none⟩, .string XN)]) (by assumption) | exact AtF.on (w := w3) (l := [(⟨kb, ko + k, none⟩, .string XK), (⟨nb, no + k, none⟩, .string XN)]) (by assumption) (by assumption) | exact AtF.al (w := w3) (l := [(⟨kb, ko + k, none⟩, .string XK), (⟨nb, no + k, none⟩, .string XN)]) (by assumption) _ | exact AtF.ald (w := w3) (l := [(⟨kb, ko + k, none⟩, .string XK), (⟨nb, no + k, none⟩, .string XN)]) (by assumption) _ | exact AtF.al (w := w3) (l := [(⟨kb, ko + k, none⟩, .string XK), (⟨nb, no + k, none⟩, .string XN)]) hs _ | exact AtF.ald (w := w3) (l := [(⟨kb, ko + k, none⟩, .string XK), (⟨nb, no + k, none⟩, .string XN)]) hs _)
            refine heldY 0 36 ?_ _ rfl rfl (by kernel_rfl) (by kernel_rfl) (by kernel_rfl) (fun _ _ _ h => h) rfl (by assumption) ?_ ?_
            rotate_left
            · (intro w hSw; (try dsimp only at hSw); go_simp; (try with_reducible rfl))
            try simp only [List.setIfInBounds_toArray, List.set_cons_zero, List.set_cons_succ]
            refine heldY 1 37 ?_ _ rfl rfl (by kernel_rfl) (by kernel_rfl) (by kernel_rfl) (fun _ _ _ h => h) rfl (by assumption) ?_ ?_
            rotate_left
            · (intro w hSw; (try dsimp only at hSw); go_simp; (try with_reducible rfl))
            try simp only [List.setIfInBounds_toArray, List.set_cons_zero, List.set_cons_succ]
            refine heldY 2 38 ?_ _ rfl rfl (by kernel_rfl) (by kernel_rfl) (by kernel_rfl) (fun _ _ _ h => h) rfl (by assumption) ?_ ?_
            rotate_left
            · (intro w hSw; (try dsimp only at hSw); go_simp; (try with_reducible rfl))
            try simp only [List.setIfInBounds_toArray, List.set_cons_zero, List.set_cons_succ]
            refine heldY 3 39 ?_ _ rfl rfl (by kernel_rfl) (by kernel_rfl) (by kernel_rfl) (fun _ _ _ h => h) rfl (by assumption) ?_ ?_
            rotate_left
            · (intro w hSw; (try dsimp only at hSw); go_simp; (try with_reducible rfl))
            try simp only [List.setIfInBounds_toArray, List.set_cons_zero, List.set_cons_succ]
            refine wpAnyH_ready (rs := [4]) (by kernel_rfl) (by simp) ?_
            refine AllReadyH.cons rfl (fun K hK => ?_) AllReadyH.nil
            go_simp
            first | (go_at_call 71; (with_reducible refine (PL _).mono ?_); rintro e w4 ⟨rfl, hb⟩) | (go_at_call 72; first | ((with_reducible refine (HA _ (BE _ (by assumption))).mono ?_); rintro e w4 ⟨rfl, rfl⟩) | ((with_reducible refine (HN _ (BE _ (by assumption))).mono ?_); rintro e w4 ⟨rfl, rfl⟩)) | (go_at_call 73; (with_reducible refine (NM _).mono ?_); rintro e w4 ⟨rfl, rfl⟩)
            refine hK.out _ _ ?_ (fun hHeld => ?_)
            · (try dsimp only); (first | assumption | exact hs | exact AtF.dr (w := w3) (l := [(⟨kb, ko + k, none⟩, .string XK), (⟨nb, no + k, none⟩, .string XN)]) hs | exact AtF.dr (w := w3) (l := [(⟨kb, ko + k, none⟩, .string XK), (⟨nb, no + k, none⟩, .string XN)]) (by assumption) | exact AtF.on (w := w3) (l := [(⟨kb, ko + k, none⟩, .string XK), (⟨nb, no + k, none⟩, .string XN)]) (by assumption) (by assumption) | exact AtF.al (w := w3) (l := [(⟨kb, ko + k, none⟩, .string XK), (⟨nb, no + k, none⟩, .string XN)]) (by assumption) _ | exact AtF.ald (w := w3) (l := [(⟨kb, ko + k, none⟩, .string XK), (⟨nb, no + k, none⟩, .string XN)]) (by assumption) _ | exact AtF.al (w := w3) (l := [(⟨kb, ko + k, none⟩, .string XK), (⟨nb, no + k, none⟩, .string XN)]) hs _ | exact AtF.ald (w := w3) (l := [(⟨kb, ko + k, none⟩, .string XK), (⟨nb, no + k, none⟩, .string XN)]) hs _)
            clear hK K
            try simp only [Act.put, List.setIfInBounds_toArray, List.set_cons_zero, List.set_cons_succ]
            refine heldY 5 41 ?_ _ rfl rfl (by kernel_rfl) (by kernel_rfl) (by kernel_rfl) (fun _ _ _ h => h) rfl (by assumption) ?_ ?_
            rotate_left
            · (intro w hSw; (try dsimp only at hSw); go_simp; (try with_reducible rfl))
            try simp only [List.setIfInBounds_toArray, List.set_cons_zero, List.set_cons_succ]
            refine heldY 6 42 ?_ _ rfl rfl (by kernel_rfl) (by kernel_rfl) (by kernel_rfl) (fun _ _ _ h => h) rfl (by assumption) ?_ ?_
            rotate_left
            · (intro w hSw; (try dsimp only at hSw); go_simp; (try with_reducible rfl))
            try simp only [List.setIfInBounds_toArray, List.set_cons_zero, List.set_cons_succ]
            refine heldY 7 43 ?_ _ rfl rfl (by kernel_rfl) (by kernel_rfl) (by kernel_rfl) (fun _ _ _ h => h) rfl (by assumption) ?_ ?_
            rotate_left
            · (intro w hSw; (try dsimp only at hSw); go_simp; (try with_reducible rfl))
            try simp only [List.setIfInBounds_toArray, List.set_cons_zero, List.set_cons_succ]
            refine heldY 8 44 ?_ _ rfl rfl (by kernel_rfl) (by kernel_rfl) (by kernel_rfl) (fun _ _ _ h => h) rfl (by assumption) ?_ ?_
            rotate_left
            · (intro w hSw; (try dsimp only at hSw); go_simp; (try with_reducible rfl))
            try simp only [List.setIfInBounds_toArray, List.set_cons_zero, List.set_cons_succ]
            refine heldY 9 45 ?_ _ rfl rfl (by kernel_rfl) (by kernel_rfl) (by kernel_rfl) (fun _ _ _ h => h) rfl (by assumption) ?_ ?_
            rotate_left
            · (intro w hSw; (try dsimp only at hSw); go_simp; (try with_reducible rfl))
            try simp only [List.setIfInBounds_toArray, List.set_cons_zero, List.set_cons_succ]
            refine heldY 10 46 ?_ _ rfl rfl (by kernel_rfl) (by kernel_rfl) (by kernel_rfl) (fun _ _ _ h => h) rfl (by assumption) ?_ ?_
            rotate_left
            · (intro w hSw; (try dsimp only at hSw); go_simp; (try with_reducible rfl))
            try simp only [List.setIfInBounds_toArray, List.set_cons_zero, List.set_cons_succ]
            refine heldY 11 47 ?_ _ rfl rfl (by kernel_rfl) (by kernel_rfl) (by kernel_rfl) (fun _ _ _ h => h) rfl (by assumption) ?_ ?_
            rotate_left
            · (intro w hSw; (try dsimp only at hSw); go_simp; (try with_reducible rfl))
            try simp only [List.setIfInBounds_toArray, List.set_cons_zero, List.set_cons_succ]
            refine heldY 12 48 ?_ _ rfl rfl (by kernel_rfl) (by kernel_rfl) (by kernel_rfl) (fun _ _ _ h => h) rfl (by assumption) ?_ ?_
            rotate_left
            · (intro w hSw; (try dsimp only at hSw); go_simp; (try with_reducible rfl))
            try simp only [List.setIfInBounds_toArray, List.set_cons_zero, List.set_cons_succ]
            refine heldY 13 49 ?_ _ rfl rfl (by kernel_rfl) (by kernel_rfl) (by kernel_rfl) (fun _ _ _ h => h) rfl (by assumption) ?_ ?_
            rotate_left
            · (intro w hSw; (try dsimp only at hSw); go_simp; (try with_reducible rfl))
            try simp only [List.setIfInBounds_toArray, List.set_cons_zero, List.set_cons_succ]
            refine wpAnyH_ready (rs := [14]) (by kernel_rfl) (by simp) ?_
            refine AllReadyH.cons rfl (fun K hK => ?_) AllReadyH.nil
            go_simp
            first | (go_at_call 71; (with_reducible refine (PL _).mono ?_); rintro e w4 ⟨rfl, hb⟩) | (go_at_call 72; first | ((with_reducible refine (HA _ (BE _ (by assumption))).mono ?_); rintro e w4 ⟨rfl, rfl⟩) | ((with_reducible refine (HN _ (BE _ (by assumption))).mono ?_); rintro e w4 ⟨rfl, rfl⟩)) | (go_at_call 73; (with_reducible refine (NM _).mono ?_); rintro e w4 ⟨rfl, rfl⟩)
            refine hK.out _ _ ?_ (fun hHeld => ?_)
            · (try dsimp only); (first | assumption | exact hs | exact AtF.dr (w := w3) (l := [(⟨kb, ko + k, none⟩, .string XK), (⟨nb, no + k, none⟩, .string XN)]) hs | exact AtF.dr (w := w3) (l := [(⟨kb, ko + k, none⟩, .string XK), (⟨nb, no + k, none⟩, .string XN)]) (by assumption) | exact AtF.on (w := w3) (l := [(⟨kb, ko + k, none⟩, .string XK), (⟨nb, no + k, none⟩, .string XN)]) (by assumption) (by assumption) | exact AtF.al (w := w3) (l := [(⟨kb, ko + k, none⟩, .string XK), (⟨nb, no + k, none⟩, .string XN)]) (by assumption) _ | exact AtF.ald (w := w3) (l := [(⟨kb, ko + k, none⟩, .string XK), (⟨nb, no + k, none⟩, .string XN)]) (by assumption) _ | exact AtF.al (w := w3) (l := [(⟨kb, ko + k, none⟩, .string XK), (⟨nb, no + k, none⟩, .string XN)]) hs _ | exact AtF.ald (w := w3) (l := [(⟨kb, ko + k, none⟩, .string XK), (⟨nb, no + k, none⟩, .string XN)]) hs _)
            clear hK K
            try simp only [Act.put, List.setIfInBounds_toArray, List.set_cons_zero, List.set_cons_succ]
            refine heldY 15 51 ?_ _ rfl rfl (by kernel_rfl) (by kernel_rfl) (by kernel_rfl) (fun _ _ _ h => h) rfl (by assumption) ?_ ?_
            rotate_left
            · (intro w hSw; (try dsimp only at hSw); go_simp; (try with_reducible rfl))
            try simp only [List.setIfInBounds_toArray, List.set_cons_zero, List.set_cons_succ]
            refine heldY 16 52 ?_ _ rfl rfl (by kernel_rfl) (by kernel_rfl) (by kernel_rfl) (fun _ _ _ h => h) rfl (by assumption) ?_ ?_
            rotate_left
            · (intro w hSw; (try dsimp only at hSw); go_simp; (try with_reducible rfl))
            try simp only [List.setIfInBounds_toArray, List.set_cons_zero, List.set_cons_succ]
            refine heldY 17 53 ?_ _ rfl rfl (by kernel_rfl) (by kernel_rfl) (by kernel_rfl) (fun _ _ _ h => h) rfl (by assumption) ?_ ?_
            rotate_left
            · (intro w hSw; (try dsimp only at hSw); go_simp; (try with_reducible rfl))
            try simp only [List.setIfInBounds_toArray, List.set_cons_zero, List.set_cons_succ]
            refine heldY 18 54 ?_ _ rfl rfl (by kernel_rfl) (by kernel_rfl) (by kernel_rfl) (fun _ _ _ h => h) rfl (by assumption) ?_ ?_
            rotate_left
            · (intro w hSw; (try dsimp only at hSw); go_simp; (try with_reducible rfl))
            try simp only [List.setIfInBounds_toArray, List.set_cons_zero, List.set_cons_succ]
            refine heldY 19 55 ?_ _ rfl rfl (by kernel_rfl) (by kernel_rfl) (by kernel_rfl) (fun _ _ _ h => h) rfl (by assumption) ?_ ?_
            rotate_left
            · (intro w hSw; (try dsimp only at hSw); go_simp; (try with_reducible rfl))
            try simp only [List.setIfInBounds_toArray, List.set_cons_zero, List.set_cons_succ]
            refine heldY 20 56 ?_ _ rfl rfl (by kernel_rfl) (by kernel_rfl) (by kernel_rfl) (fun _ _ _ h => h) rfl (by assumption) ?_ ?_
            rotate_left
            · (intro w hSw; (try dsimp only at hSw); go_simp; (try with_reducible rfl))
            try simp only [List.setIfInBounds_toArray, List.set_cons_zero, List.set_cons_succ]
            refine wpAnyH_ready (rs := [21]) (by kernel_rfl) (by simp) ?_
            refine AllReadyH.cons rfl (fun K hK => ?_) AllReadyH.nil
            go_simp
            first | (go_at_call 71; (with_reducible refine (PL _).mono ?_); rintro e w4 ⟨rfl, hb⟩) | (go_at_call 72; first | ((with_reducible refine (HA _ (BE _ (by assumption))).mono ?_); rintro e w4 ⟨rfl, rfl⟩) | ((with_reducible refine (HN _ (BE _ (by assumption))).mono ?_); rintro e w4 ⟨rfl, rfl⟩)) | (go_at_call 73; (with_reducible refine (NM _).mono ?_); rintro e w4 ⟨rfl, rfl⟩)
            refine hK.out _ _ ?_ (fun hHeld => ?_)
            · (try dsimp only); (first | assumption | exact hs | exact AtF.dr (w := w3) (l := [(⟨kb, ko + k, none⟩, .string XK), (⟨nb, no + k, none⟩, .string XN)]) hs | exact AtF.dr (w := w3) (l := [(⟨kb, ko + k, none⟩, .string XK), (⟨nb, no + k, none⟩, .string XN)]) (by assumption) | exact AtF.on (w := w3) (l := [(⟨kb, ko + k, none⟩, .string XK), (⟨nb, no + k, none⟩, .string XN)]) (by assumption) (by assumption) | exact AtF.al (w := w3) (l := [(⟨kb, ko + k, none⟩, .string XK), (⟨nb, no + k, none⟩, .string XN)]) (by assumption) _ | exact AtF.ald (w := w3) (l := [(⟨kb, ko + k, none⟩, .string XK), (⟨nb, no + k, none⟩, .string XN)]) (by assumption) _ | exact AtF.al (w := w3) (l := [(⟨kb, ko + k, none⟩, .string XK), (⟨nb, no + k, none⟩, .string XN)]) hs _ | exact AtF.ald (w := w3) (l := [(⟨kb, ko + k, none⟩, .string XK), (⟨nb, no + k, none⟩, .string XN)]) hs _)
            clear hK K
            try simp only [Act.put, List.setIfInBounds_toArray, List.set_cons_zero, List.set_cons_succ]
            refine heldY 22 58 ?_ _ rfl rfl (by kernel_rfl) (by kernel_rfl) (by kernel_rfl) (fun _ _ _ h => h) rfl (by assumption) ?_ ?_
            rotate_left
            · (intro w hSw; (try dsimp only at hSw); go_simp; (try with_reducible rfl))
            try simp only [List.setIfInBounds_toArray, List.set_cons_zero, List.set_cons_succ]
            refine heldY 23 59 ?_ _ rfl rfl (by kernel_rfl) (by kernel_rfl) (by kernel_rfl) (fun _ _ _ h => h) rfl (by assumption) ?_ ?_
            rotate_left
            · (intro w hSw; (try dsimp only at hSw); go_simp; (try with_reducible rfl))
            try simp only [List.setIfInBounds_toArray, List.set_cons_zero, List.set_cons_succ]
            refine heldY 24 60 ?_ _ rfl rfl (by kernel_rfl) (by kernel_rfl) (by kernel_rfl) (fun _ _ _ h => h) rfl (by assumption) ?_ ?_
            rotate_left
            · (intro w hSw; (try dsimp only at hSw); go_simp; (try with_reducible rfl))
            try simp only [List.setIfInBounds_toArray, List.set_cons_zero, List.set_cons_succ]
            refine heldNo 25 61 rfl (by kernel_rfl) (by kernel_rfl) (by kernel_rfl) (fun _ _ _ h => h) rfl (by assumption) ?_
            try simp only [List.setIfInBounds_toArray, List.set_cons_zero, List.set_cons_succ]
            refine heldNo 26 62 rfl (by kernel_rfl) (by kernel_rfl) (by kernel_rfl) (fun _ _ _ h => h) rfl (by assumption) ?_
            try simp only [List.setIfInBounds_toArray, List.set_cons_zero, List.set_cons_succ]
            refine heldNo 27 63 rfl (by kernel_rfl) (by kernel_rfl) (by kernel_rfl) (fun _ _ _ h => h) rfl (by assumption) ?_
            try simp only [List.setIfInBounds_toArray, List.set_cons_zero, List.set_cons_succ]
            refine heldNo 28 64 rfl (by kernel_rfl) (by kernel_rfl) (by kernel_rfl) (fun _ _ _ h => h) rfl (by assumption) ?_
            try simp only [List.setIfInBounds_toArray, List.set_cons_zero, List.set_cons_succ]
            refine heldNo 29 65 rfl (by kernel_rfl) (by kernel_rfl) (by kernel_rfl) (fun _ _ _ h => h) rfl (by assumption) ?_
            try simp only [List.setIfInBounds_toArray, List.set_cons_zero, List.set_cons_succ]
            refine heldNo 30 66 rfl (by kernel_rfl) (by kernel_rfl) (by kernel_rfl) (fun _ _ _ h => h) rfl (by assumption) ?_
            try simp only [List.setIfInBounds_toArray, List.set_cons_zero, List.set_cons_succ]
            refine heldNo 31 67 rfl (by kernel_rfl) (by kernel_rfl) (by kernel_rfl) (fun _ _ _ h => h) rfl (by assumption) ?_
            try simp only [List.setIfInBounds_toArray, List.set_cons_zero, List.set_cons_succ]
            refine heldNo 32 68 rfl (by kernel_rfl) (by kernel_rfl) (by kernel_rfl) (fun _ _ _ h => h) rfl (by assumption) ?_
            try simp only [List.setIfInBounds_toArray, List.set_cons_zero, List.set_cons_succ]
            refine heldY 33 69 ?_ _ rfl rfl (by kernel_rfl) (by kernel_rfl) (by kernel_rfl) (fun _ _ _ h => h) rfl (by assumption) ?_ ?_
            rotate_left
            · (intro w hSw; (try dsimp only at hSw); go_simp; (try with_reducible rfl))
            try simp only [List.setIfInBounds_toArray, List.set_cons_zero, List.set_cons_succ]
            refine heldY 34 70 ?_ _ rfl rfl (by kernel_rfl) (by kernel_rfl) (by kernel_rfl) (fun _ _ _ h => h) rfl (by assumption) ?_ ?_
            rotate_left
            · (intro w hSw; (try dsimp only at hSw); go_simp; (try with_reducible rfl))
            try simp only [List.setIfInBounds_toArray, List.set_cons_zero, List.set_cons_succ]
            refine heldNo 35 71 rfl (by kernel_rfl) (by kernel_rfl) (by kernel_rfl) (fun _ _ _ h => h) rfl (by assumption) ?_
            try simp only [List.setIfInBounds_toArray, List.set_cons_zero, List.set_cons_succ]
            refine heldNo 36 72 rfl (by kernel_rfl) (by kernel_rfl) (by kernel_rfl) (fun _ _ _ h => h) rfl (by assumption) ?_
            try simp only [List.setIfInBounds_toArray, List.set_cons_zero, List.set_cons_succ]
            refine heldNo 37 73 rfl (by kernel_rfl) (by kernel_rfl) (by kernel_rfl) (fun _ _ _ h => h) rfl (by assumption) ?_
            try simp only [List.setIfInBounds_toArray, List.set_cons_zero, List.set_cons_succ]
            refine heldNo 38 74 rfl (by kernel_rfl) (by kernel_rfl) (by kernel_rfl) (fun _ _ _ h => h) rfl (by assumption) ?_
            try simp only [List.setIfInBounds_toArray, List.set_cons_zero, List.set_cons_succ]
            refine heldNo 39 75 rfl (by kernel_rfl) (by kernel_rfl) (by kernel_rfl) (fun _ _ _ h => h) rfl (by assumption) ?_
            try simp only [List.setIfInBounds_toArray, List.set_cons_zero, List.set_cons_succ]
            refine heldNo 40 76 rfl (by kernel_rfl) (by kernel_rfl) (by kernel_rfl) (fun _ _ _ h => h) rfl (by assumption) ?_
            try simp only [List.setIfInBounds_toArray, List.set_cons_zero, List.set_cons_succ]
            refine heldNo 41 77 rfl (by kernel_rfl) (by kernel_rfl) (by kernel_rfl) (fun _ _ _ h => h) rfl (by assumption) ?_
            try simp only [List.setIfInBounds_toArray, List.set_cons_zero, List.set_cons_succ]
            refine heldNo 42 78 rfl (by kernel_rfl) (by kernel_rfl) (by kernel_rfl) (fun _ _ _ h => h) rfl (by assumption) ?_
            try simp only [List.setIfInBounds_toArray, List.set_cons_zero, List.set_cons_succ]
            refine heldNo 43 79 rfl (by kernel_rfl) (by kernel_rfl) (by kernel_rfl) (fun _ _ _ h => h) rfl (by assumption) ?_
            try simp only [List.setIfInBounds_toArray, List.set_cons_zero, List.set_cons_succ]
            refine heldNo 44 80 rfl (by kernel_rfl) (by kernel_rfl) (by kernel_rfl) (fun _ _ _ h => h) rfl (by assumption) ?_
            try simp only [List.setIfInBounds_toArray, List.set_cons_zero, List.set_cons_succ]
            refine heldNo 45 81 rfl (by kernel_rfl) (by kernel_rfl) (by kernel_rfl) (fun _ _ _ h => h) rfl (by assumption) ?_
            try simp only [List.setIfInBounds_toArray, List.set_cons_zero, List.set_cons_succ]
            refine heldNo 46 82 rfl (by kernel_rfl) (by kernel_rfl) (by kernel_rfl) (fun _ _ _ h => h) rfl (by assumption) ?_
            try simp only [List.setIfInBounds_toArray, List.set_cons_zero, List.set_cons_succ]
            refine heldNo 47 83 rfl (by kernel_rfl) (by kernel_rfl) (by kernel_rfl) (fun _ _ _ h => h) rfl (by assumption) ?_
            try simp only [List.setIfInBounds_toArray, List.set_cons_zero, List.set_cons_succ]
            refine heldNo 48 84 rfl (by kernel_rfl) (by kernel_rfl) (by kernel_rfl) (fun _ _ _ h => h) rfl (by assumption) ?_
            try simp only [List.setIfInBounds_toArray, List.set_cons_zero, List.set_cons_succ]
            refine heldY 49 85 ?_ _ rfl rfl (by kernel_rfl) (by kernel_rfl) (by kernel_rfl) (fun _ _ _ h => h) rfl (by assumption) ?_ ?_
            rotate_left
            · (intro w hSw; (try dsimp only at hSw); go_simp; (try with_reducible rfl))
            try simp only [List.setIfInBounds_toArray, List.set_cons_zero, List.set_cons_succ]
            refine wpAnyH_done (by kernel_rfl) ?_ _
            have HW4 := Lib.hid (BE _ hHeld)
            clear hHeld
            go_wp2
            go_ret
            exact ⟨retb HF.out, HB3.out.trans (HW4.out.mono HB3.out.size)⟩
          · simp only [hq] at NM
            by_cases h2 : N ∈ (namesA x).take k
            · have HF := Lib.hid (HBAD.out (fun g => g.2.2.2.1 h2))
              simp only [decide_eq_true h2] at HN
              clear hp h1 h2 hq HBAD HNEXT hK hN
              go_wp2
              have BE := fun (V : World) (h : V.cell? ⟨kb, ko + k, none⟩ = some (.string XK) ∧ V.cell? ⟨nb, no + k, none⟩ = some (.string XN) ∧ Below w3.heap.size w3 V) => AtF.be (w := w3) (l := [(⟨kb, ko + k, none⟩, .string XK), (⟨nb, no + k, none⟩, .string XN)]) h
              refine wp_region_held_drew (S := (fun V => V.cell? ⟨kb, ko + k, none⟩ = some (.string XK) ∧ V.cell? ⟨nb, no + k, none⟩ = some (.string XN) ∧ Below w3.heap.size w3 V)) (by kernel_rfl) ?_ (fun hHeld => ?_)
              · (try dsimp only); (first | assumption | exact hs | exact AtF.dr (w := w3) (l := [(⟨kb, ko + k, none⟩, .string XK), (⟨nb, no + k, none⟩, .string XN)]) hs | exact AtF.dr (w := w3) (l := [(⟨kb, ko + k, none⟩, .string XK), (⟨nb, no + k, none⟩, .string XN)]) (by assumption) | exact AtF.on (w := w3) (l := [(⟨kb, ko + k, none⟩, .string XK), (⟨nb, no + k, none⟩, .string XN)]) (by assumption) (by assumption) | exact AtF.al (w := w3) (l := [(⟨kb, ko + k, none⟩, .string XK), (⟨nb, no + k, none⟩, .string XN)]) (by assumption) _ | exact AtF.ald (w := w3) (l := [(⟨kb, ko + k, none⟩, .string XK), (⟨nb, no + k, none⟩, .string XN)]) (by assumption) _ | exact AtF.al (w := w3) (l := [(⟨kb, ko + k, none⟩, .string XK), (⟨nb, no + k, none⟩, .string XN)]) hs _ | exact AtF.ald (w := w3) (l := [(⟨kb, ko + k, none⟩, .string XK), (⟨nb, no + k, none⟩, .string XN)]) hs _)
              refine heldY 0 36 ?_ _ rfl rfl (by kernel_rfl) (by kernel_rfl) (by kernel_rfl) (fun _ _ _ h => h) rfl (by assumption) ?_ ?_
              rotate_left
              · (intro w hSw; (try dsimp only at hSw); go_simp; (try with_reducible rfl))
              try simp only [List.setIfInBounds_toArray, List.set_cons_zero, List.set_cons_succ]
              refine heldY 1 37 ?_ _ rfl rfl (by kernel_rfl) (by kernel_rfl) (by kernel_rfl) (fun _ _ _ h => h) rfl (by assumption) ?_ ?_
              rotate_left
              · (intro w hSw; (try dsimp only at hSw); go_simp; (try with_reducible rfl))
              try simp only [List.setIfInBounds_toArray, List.set_cons_zero, List.set_cons_succ]
              refine heldY 2 38 ?_ _ rfl rfl (by kernel_rfl) (by kernel_rfl) (by kernel_rfl) (fun _ _ _ h => h) rfl (by assumption) ?_ ?_
              rotate_left
              · (intro w hSw; (try dsimp only at hSw); go_simp; (try with_reducible rfl))
              try simp only [List.setIfInBounds_toArray, List.set_cons_zero, List.set_cons_succ]
              refine heldY 3 39 ?_ _ rfl rfl (by kernel_rfl) (by kernel_rfl) (by kernel_rfl) (fun _ _ _ h => h) rfl (by assumption) ?_ ?_
              rotate_left
              · (intro w hSw; (try dsimp only at hSw); go_simp; (try with_reducible rfl))
              try simp only [List.setIfInBounds_toArray, List.set_cons_zero, List.set_cons_succ]
              refine wpAnyH_ready (rs := [4]) (by kernel_rfl) (by simp) ?_
              refine AllReadyH.cons rfl (fun K hK => ?_) AllReadyH.nil
              go_simp
              first | (go_at_call 71; (with_reducible refine (PL _).mono ?_); rintro e w4 ⟨rfl, hb⟩) | (go_at_call 72; first | ((with_reducible refine (HA _ (BE _ (by assumption))).mono ?_); rintro e w4 ⟨rfl, rfl⟩) | ((with_reducible refine (HN _ (BE _ (by assumption))).mono ?_); rintro e w4 ⟨rfl, rfl⟩)) | (go_at_call 73; (with_reducible refine (NM _).mono ?_); rintro e w4 ⟨rfl, rfl⟩)
              refine hK.out _ _ ?_ (fun hHeld => ?_)
              · (try dsimp only); (first | assumption | exact hs | exact AtF.dr (w := w3) (l := [(⟨kb, ko + k, none⟩, .string XK), (⟨nb, no + k, none⟩, .string XN)]) hs | exact AtF.dr (w := w3) (l := [(⟨kb, ko + k, none⟩, .string XK), (⟨nb, no + k, none⟩, .string XN)]) (by assumption) | exact AtF.on (w := w3) (l := [(⟨kb, ko + k, none⟩, .string XK), (⟨nb, no + k, none⟩, .string XN)]) (by assumption) (by assumption) | exact AtF.al (w := w3) (l := [(⟨kb, ko + k, none⟩, .string XK), (⟨nb, no + k, none⟩, .string XN)]) (by assumption) _ | exact AtF.ald (w := w3) (l := [(⟨kb, ko + k, none⟩, .string XK), (⟨nb, no + k, none⟩, .string XN)]) (by assumption) _ | exact AtF.al (w := w3) (l := [(⟨kb, ko + k, none⟩, .string XK), (⟨nb, no + k, none⟩, .string XN)]) hs _ | exact AtF.ald (w := w3) (l := [(⟨kb, ko + k, none⟩, .string XK), (⟨nb, no + k, none⟩, .string XN)]) hs _)
              clear hK K
              try simp only [Act.put, List.setIfInBounds_toArray, List.set_cons_zero, List.set_cons_succ]
              refine heldY 5 41 ?_ _ rfl rfl (by kernel_rfl) (by kernel_rfl) (by kernel_rfl) (fun _ _ _ h => h) rfl (by assumption) ?_ ?_
              rotate_left
              · (intro w hSw; (try dsimp only at hSw); go_simp; (try with_reducible rfl))
              try simp only [List.setIfInBounds_toArray, List.set_cons_zero, List.set_cons_succ]
              refine heldY 6 42 ?_ _ rfl rfl (by kernel_rfl) (by kernel_rfl) (by kernel_rfl) (fun _ _ _ h => h) rfl (by assumption) ?_ ?_
              rotate_left
              · (intro w hSw; (try dsimp only at hSw); go_simp; (try with_reducible rfl))
              try simp only [List.setIfInBounds_toArray, List.set_cons_zero, List.set_cons_succ]
              refine heldY 7 43 ?_ _ rfl rfl (by kernel_rfl) (by kernel_rfl) (by kernel_rfl) (fun _ _ _ h => h) rfl (by assumption) ?_ ?_
              rotate_left
              · (intro w hSw; (try dsimp only at hSw); go_simp; (try with_reducible rfl))
              try simp only [List.setIfInBounds_toArray, List.set_cons_zero, List.set_cons_succ]
              refine heldY 8 44 ?_ _ rfl rfl (by kernel_rfl) (by kernel_rfl) (by kernel_rfl) (fun _ _ _ h => h) rfl (by assumption) ?_ ?_
              rotate_left
              · (intro w hSw; (try dsimp only at hSw); go_simp; (try with_reducible rfl))
              try simp only [List.setIfInBounds_toArray, List.set_cons_zero, List.set_cons_succ]
              refine heldY 9 45 ?_ _ rfl rfl (by kernel_rfl) (by kernel_rfl) (by kernel_rfl) (fun _ _ _ h => h) rfl (by assumption) ?_ ?_
              rotate_left
              · (intro w hSw; (try dsimp only at hSw); go_simp; (try with_reducible rfl))
              try simp only [List.setIfInBounds_toArray, List.set_cons_zero, List.set_cons_succ]
              refine heldY 10 46 ?_ _ rfl rfl (by kernel_rfl) (by kernel_rfl) (by kernel_rfl) (fun _ _ _ h => h) rfl (by assumption) ?_ ?_
              rotate_left
              · (intro w hSw; (try dsimp only at hSw); go_simp; (try with_reducible rfl))
              try simp only [List.setIfInBounds_toArray, List.set_cons_zero, List.set_cons_succ]
              refine heldY 11 47 ?_ _ rfl rfl (by kernel_rfl) (by kernel_rfl) (by kernel_rfl) (fun _ _ _ h => h) rfl (by assumption) ?_ ?_
              rotate_left
              · (intro w hSw; (try dsimp only at hSw); go_simp; (try with_reducible rfl))
              try simp only [List.setIfInBounds_toArray, List.set_cons_zero, List.set_cons_succ]
              refine heldY 12 48 ?_ _ rfl rfl (by kernel_rfl) (by kernel_rfl) (by kernel_rfl) (fun _ _ _ h => h) rfl (by assumption) ?_ ?_
              rotate_left
              · (intro w hSw; (try dsimp only at hSw); go_simp; (try with_reducible rfl))
              try simp only [List.setIfInBounds_toArray, List.set_cons_zero, List.set_cons_succ]
              refine heldY 13 49 ?_ _ rfl rfl (by kernel_rfl) (by kernel_rfl) (by kernel_rfl) (fun _ _ _ h => h) rfl (by assumption) ?_ ?_
              rotate_left
              · (intro w hSw; (try dsimp only at hSw); go_simp; (try with_reducible rfl))
              try simp only [List.setIfInBounds_toArray, List.set_cons_zero, List.set_cons_succ]
              refine wpAnyH_ready (rs := [14]) (by kernel_rfl) (by simp) ?_
              refine AllReadyH.cons rfl (fun K hK => ?_) AllReadyH.nil
              go_simp
              first | (go_at_call 71; (with_reducible refine (PL _).mono ?_); rintro e w4 ⟨rfl, hb⟩) | (go_at_call 72; first | ((with_reducible refine (HA _ (BE _ (by assumption))).mono ?_); rintro e w4 ⟨rfl, rfl⟩) | ((with_reducible refine (HN _ (BE _ (by assumption))).mono ?_); rintro e w4 ⟨rfl, rfl⟩)) | (go_at_call 73; (with_reducible refine (NM _).mono ?_); rintro e w4 ⟨rfl, rfl⟩)
              refine hK.out _ _ ?_ (fun hHeld => ?_)
              · (try dsimp only); (first | assumption | exact hs | exact AtF.dr (w := w3) (l := [(⟨kb, ko + k, none⟩, .string XK), (⟨nb, no + k, none⟩, .string XN)]) hs | exact AtF.dr (w := w3) (l := [(⟨kb, ko + k, none⟩, .string XK), (⟨nb, no + k, none⟩, .string XN)]) (by assumption) | exact AtF.on (w := w3) (l := [(⟨kb, ko + k, none⟩, .string XK), (⟨nb, no + k, none⟩, .string XN)]) (by assumption) (by assumption) | exact AtF.al (w := w3) (l := [(⟨kb, ko + k, none⟩, .string XK), (⟨nb, no + k, none⟩, .string XN)]) (by assumption) _ | exact AtF.ald (w := w3) (l := [(⟨kb, ko + k, none⟩, .string XK), (⟨nb, no + k, none⟩, .string XN)]) (by assumption) _ | exact AtF.al (w := w3) (l := [(⟨kb, ko + k, none⟩, .string XK), (⟨nb, no + k, none⟩, .string XN)]) hs _ | exact AtF.ald (w := w3) (l := [(⟨kb, ko + k, none⟩, .string XK), (⟨nb, no + k, none⟩, .string XN)]) hs _)
              clear hK K
              try simp only [Act.put, List.setIfInBounds_toArray, List.set_cons_zero, List.set_cons_succ]
              refine heldY 15 51 ?_ _ rfl rfl (by kernel_rfl) (by kernel_rfl) (by kernel_rfl) (fun _ _ _ h => h) rfl (by assumption) ?_ ?_
              rotate_left
              · (intro w hSw; (try dsimp only at hSw); go_simp; (try with_reducible rfl))
              try simp only [List.setIfInBounds_toArray, List.set_cons_zero, List.set_cons_succ]
              refine heldY 16 52 ?_ _ rfl rfl (by kernel_rfl) (by kernel_rfl) (by kernel_rfl) (fun _ _ _ h => h) rfl (by assumption) ?_ ?_
              rotate_left
              · (intro w hSw; (try dsimp only at hSw); go_simp; (try with_reducible rfl))
              try simp only [List.setIfInBounds_toArray, List.set_cons_zero, List.set_cons_succ]
              refine heldY 17 53 ?_ _ rfl rfl (by kernel_rfl) (by kernel_rfl) (by kernel_rfl) (fun _ _ _ h => h) rfl (by assumption) ?_ ?_
              rotate_left
              · (intro w hSw; (try dsimp only at hSw); go_simp; (try with_reducible rfl))
              try simp only [List.setIfInBounds_toArray, List.set_cons_zero, List.set_cons_succ]
              refine heldY 18 54 ?_ _ rfl rfl (by kernel_rfl) (by kernel_rfl) (by kernel_rfl) (fun _ _ _ h => h) rfl (by assumption) ?_ ?_
              rotate_left
              · (intro w hSw; (try dsimp only at hSw); go_simp; (try with_reducible rfl))
              try simp only [List.setIfInBounds_toArray, List.set_cons_zero, List.set_cons_succ]
              refine heldY 19 55 ?_ _ rfl rfl (by kernel_rfl) (by kernel_rfl) (by kernel_rfl) (fun _ _ _ h => h) rfl (by assumption) ?_ ?_
              rotate_left
              · (intro w hSw; (try dsimp only at hSw); go_simp; (try with_reducible rfl))
              try simp only [List.setIfInBounds_toArray, List.set_cons_zero, List.set_cons_succ]
              refine heldY 20 56 ?_ _ rfl rfl (by kernel_rfl) (by kernel_rfl) (by kernel_rfl) (fun _ _ _ h => h) rfl (by assumption) ?_ ?_
              rotate_left
              · (intro w hSw; (try dsimp only at hSw); go_simp; (try with_reducible rfl))
              try simp only [List.setIfInBounds_toArray, List.set_cons_zero, List.set_cons_succ]
              refine wpAnyH_ready (rs := [21]) (by kernel_rfl) (by simp) ?_
              refine AllReadyH.cons rfl (fun K hK => ?_) AllReadyH.nil
              go_simp
              first | (go_at_call 71; (with_reducible refine (PL _).mono ?_); rintro e w4 ⟨rfl, hb⟩) | (go_at_call 72; first | ((with_reducible refine (HA _ (BE _ (by assumption))).mono ?_); rintro e w4 ⟨rfl, rfl⟩) | ((with_reducible refine (HN _ (BE _ (by assumption))).mono ?_); rintro e w4 ⟨rfl, rfl⟩)) | (go_at_call 73; (with_reducible refine (NM _).mono ?_); rintro e w4 ⟨rfl, rfl⟩)
              refine hK.out _ _ ?_ (fun hHeld => ?_)
              · (try dsimp only); (first | assumption | exact hs | exact AtF.dr (w := w3) (l := [(⟨kb, ko + k, none⟩, .string XK), (⟨nb, no + k, none⟩, .string XN)]) hs | exact AtF.dr (w := w3) (l := [(⟨kb, ko + k, none⟩, .string XK), (⟨nb, no + k, none⟩, .string XN)]) (by assumption) | exact AtF.on (w := w3) (l := [(⟨kb, ko + k, none⟩, .string XK), (⟨nb, no + k, none⟩, .string XN)]) (by assumption) (by assumption) | exact AtF.al (w := w3) (l := [(⟨kb, ko + k, none⟩, .string XK), (⟨nb, no + k, none⟩, .string XN)]) (by assumption) _ | exact AtF.ald (w := w3) (l := [(⟨kb, ko + k, none⟩, .string XK), (⟨nb, no + k, none⟩, .string XN)]) (by assumption) _ | exact AtF.al (w := w3) (l := [(⟨kb, ko + k, none⟩, .string XK), (⟨nb, no + k, none⟩, .string XN)]) hs _ | exact AtF.ald (w := w3) (l := [(⟨kb, ko + k, none⟩, .string XK), (⟨nb, no + k, none⟩, .string XN)]) hs _)
              clear hK K
              try simp only [Act.put, List.setIfInBounds_toArray, List.set_cons_zero, List.set_cons_succ]
              refine heldY 22 58 ?_ _ rfl rfl (by kernel_rfl) (by kernel_rfl) (by kernel_rfl) (fun _ _ _ h => h) rfl (by assumption) ?_ ?_
              rotate_left
              · (intro w hSw; (try dsimp only at hSw); go_simp; (try with_reducible rfl))
              try simp only [List.setIfInBounds_toArray, List.set_cons_zero, List.set_cons_succ]
              refine heldY 23 59 ?_ _ rfl rfl (by kernel_rfl) (by kernel_rfl) (by kernel_rfl) (fun _ _ _ h => h) rfl (by assumption) ?_ ?_
              rotate_left
              · (intro w hSw; (try dsimp only at hSw); go_simp; (try with_reducible rfl))
              try simp only [List.setIfInBounds_toArray, List.set_cons_zero, List.set_cons_succ]
              refine heldY 24 60 ?_ _ rfl rfl (by kernel_rfl) (by kernel_rfl) (by kernel_rfl) (fun _ _ _ h => h) rfl (by assumption) ?_ ?_
              rotate_left
              · (intro w hSw; (try dsimp only at hSw); go_simp; (try with_reducible rfl))
              try simp only [List.setIfInBounds_toArray, List.set_cons_zero, List.set_cons_succ]
              refine heldY 25 61 ?_ _ rfl rfl (by kernel_rfl) (by kernel_rfl) (by kernel_rfl) (fun _ _ _ h => h) rfl (by assumption) ?_ ?_
              rotate_left
              · (intro w hSw; (try dsimp only at hSw); go_simp; (try with_reducible rfl))
              try simp only [List.setIfInBounds_toArray, List.set_cons_zero, List.set_cons_succ]
              refine heldY 26 62 ?_ _ rfl rfl (by kernel_rfl) (by kernel_rfl) (by kernel_rfl) (fun _ _ _ h => h) rfl (by assumption) ?_ ?_
              rotate_left
              · (intro w hSw; (try dsimp only at hSw); go_simp; (try with_reducible rfl))
              try simp only [List.setIfInBounds_toArray, List.set_cons_zero, List.set_cons_succ]
              refine heldY 27 63 ?_ _ rfl rfl (by kernel_rfl) (by kernel_rfl) (by kernel_rfl) (fun _ _ _ h => h) rfl (by assumption) ?_ ?_
              rotate_left
              · (intro w hSw; (try dsimp only at hSw); go_simp; (try with_reducible rfl))
              try simp only [List.setIfInBounds_toArray, List.set_cons_zero, List.set_cons_succ]
              refine heldY 28 64 ?_ _ rfl rfl (by kernel_rfl) (by kernel_rfl) (by kernel_rfl) (fun _ _ _ h => h) rfl (by assumption) ?_ ?_
              rotate_left
              · (intro w hSw; (try dsimp only at hSw); go_simp; (try with_reducible rfl))
              try simp only [List.setIfInBounds_toArray, List.set_cons_zero, List.set_cons_succ]
              refine heldY 29 65 ?_ _ rfl rfl (by kernel_rfl) (by kernel_rfl) (by kernel_rfl) (fun _ _ _ h => h) rfl (by assumption) ?_ ?_
              rotate_left
              · (intro w hSw; (try dsimp only at hSw); go_simp; (try with_reducible rfl))
              try simp only [List.setIfInBounds_toArray, List.set_cons_zero, List.set_cons_succ]
              refine heldY 30 66 ?_ _ rfl rfl (by kernel_rfl) (by kernel_rfl) (by kernel_rfl) (fun _ _ _ h => h) rfl (by assumption) ?_ ?_
              rotate_left
              · (intro w hSw; (try dsimp only at hSw); go_simp; (try with_reducible rfl))
              try simp only [List.setIfInBounds_toArray, List.set_cons_zero, List.set_cons_succ]
              refine heldY 31 67 ?_ _ rfl rfl (by kernel_rfl) (by kernel_rfl) (by kernel_rfl) (fun _ _ _ h => h) rfl (by assumption) ?_ ?_
              rotate_left
              · (intro w hSw; (try dsimp only at hSw); go_simp; (try with_reducible rfl))
              try simp only [List.setIfInBounds_toArray, List.set_cons_zero, List.set_cons_succ]
              refine wpAnyH_ready (rs := [32]) (by kernel_rfl) (by simp) ?_
              refine AllReadyH.cons rfl (fun K hK => ?_) AllReadyH.nil
              go_simp
              first | (go_at_call 71; (with_reducible refine (PL _).mono ?_); rintro e w4 ⟨rfl, hb⟩) | (go_at_call 72; first | ((with_reducible refine (HA _ (BE _ (by assumption))).mono ?_); rintro e w4 ⟨rfl, rfl⟩) | ((with_reducible refine (HN _ (BE _ (by assumption))).mono ?_); rintro e w4 ⟨rfl, rfl⟩)) | (go_at_call 73; (with_reducible refine (NM _).mono ?_); rintro e w4 ⟨rfl, rfl⟩)
              refine hK.out _ _ ?_ (fun hHeld => ?_)
              · (try dsimp only); (first | assumption | exact hs | exact AtF.dr (w := w3) (l := [(⟨kb, ko + k, none⟩, .string XK), (⟨nb, no + k, none⟩, .string XN)]) hs | exact AtF.dr (w := w3) (l := [(⟨kb, ko + k, none⟩, .string XK), (⟨nb, no + k, none⟩, .string XN)]) (by assumption) | exact AtF.on (w := w3) (l := [(⟨kb, ko + k, none⟩, .string XK), (⟨nb, no + k, none⟩, .string XN)]) (by assumption) (by assumption) | exact AtF.al (w := w3) (l := [(⟨kb, ko + k, none⟩, .string XK), (⟨nb, no + k, none⟩, .string XN)]) (by assumption) _ | exact AtF.ald (w := w3) (l := [(⟨kb, ko + k, none⟩, .string XK), (⟨nb, no + k, none⟩, .string XN)]) (by assumption) _ | exact AtF.al (w := w3) (l := [(⟨kb, ko + k, none⟩, .string XK), (⟨nb, no + k, none⟩, .string XN)]) hs _ | exact AtF.ald (w := w3) (l := [(⟨kb, ko + k, none⟩, .string XK), (⟨nb, no + k, none⟩, .string XN)]) hs _)
              clear hK K
              try simp only [Act.put, List.setIfInBounds_toArray, List.set_cons_zero, List.set_cons_succ]
              refine heldY 33 69 ?_ _ rfl rfl (by kernel_rfl) (by kernel_rfl) (by kernel_rfl) (fun _ _ _ h => h) rfl (by assumption) ?_ ?_
              rotate_left
              · (intro w hSw; (try dsimp only at hSw); go_simp; (try with_reducible rfl))
              try simp only [List.setIfInBounds_toArray, List.set_cons_zero, List.set_cons_succ]
              refine heldY 34 70 ?_ _ rfl rfl (by kernel_rfl) (by kernel_rfl) (by kernel_rfl) (fun _ _ _ h => h) rfl (by assumption) ?_ ?_
              rotate_left
              · (intro w hSw; (try dsimp only at hSw); go_simp; (try with_reducible rfl))
              try simp only [List.setIfInBounds_toArray, List.set_cons_zero, List.set_cons_succ]
              refine heldNo 35 71 rfl (by kernel_rfl) (by kernel_rfl) (by kernel_rfl) (fun _ _ _ h => h) rfl (by assumption) ?_
              try simp only [List.setIfInBounds_toArray, List.set_cons_zero, List.set_cons_succ]
              refine heldNo 36 72 rfl (by kernel_rfl) (by kernel_rfl) (by kernel_rfl) (fun _ _ _ h => h) rfl (by assumption) ?_
              try simp only [List.setIfInBounds_toArray, List.set_cons_zero, List.set_cons_succ]
              refine heldNo 37 73 rfl (by kernel_rfl) (by kernel_rfl) (by kernel_rfl) (fun _ _ _ h => h) rfl (by assumption) ?_
              try simp only [List.setIfInBounds_toArray, List.set_cons_zero, List.set_cons_succ]
              refine heldNo 38 74 rfl (by kernel_rfl) (by kernel_rfl) (by kernel_rfl) (fun _ _ _ h => h) rfl (by assumption) ?_
              try simp only [List.setIfInBounds_toArray, List.set_cons_zero, List.set_cons_succ]
              refine heldNo 39 75 rfl (by kernel_rfl) (by kernel_rfl) (by kernel_rfl) (fun _ _ _ h => h) rfl (by assumption) ?_
              try simp only [List.setIfInBounds_toArray, List.set_cons_zero, List.set_cons_succ]
              refine heldNo 40 76 rfl (by kernel_rfl) (by kernel_rfl) (by kernel_rfl) (fun _ _ _ h => h) rfl (by assumption) ?_
              try simp only [List.setIfInBounds_toArray, List.set_cons_zero, List.set_cons_succ]
              refine heldNo 41 77 rfl (by kernel_rfl) (by kernel_rfl) (by kernel_rfl) (fun _ _ _ h => h) rfl (by assumption) ?_
              try simp only [List.setIfInBounds_toArray, List.set_cons_zero, List.set_cons_succ]
              refine heldNo 42 78 rfl (by kernel_rfl) (by kernel_rfl) (by kernel_rfl) (fun _ _ _ h => h) rfl (by assumption) ?_
              try simp only [List.setIfInBounds_toArray, List.set_cons_zero, List.set_cons_succ]
              refine heldNo 43 79 rfl (by kernel_rfl) (by kernel_rfl) (by kernel_rfl) (fun _ _ _ h => h) rfl (by assumption) ?_
              try simp only [List.setIfInBounds_toArray, List.set_cons_zero, List.set_cons_succ]
              refine heldNo 44 80 rfl (by kernel_rfl) (by kernel_rfl) (by kernel_rfl) (fun _ _ _ h => h) rfl (by assumption) ?_
              try simp only [List.setIfInBounds_toArray, List.set_cons_zero, List.set_cons_succ]
              refine heldNo 45 81 rfl (by kernel_rfl) (by kernel_rfl) (by kernel_rfl) (fun _ _ _ h => h) rfl (by assumption) ?_
              try simp only [List.setIfInBounds_toArray, List.set_cons_zero, List.set_cons_succ]
              refine heldNo 46 82 rfl (by kernel_rfl) (by kernel_rfl) (by kernel_rfl) (fun _ _ _ h => h) rfl (by assumption) ?_
              try simp only [List.setIfInBounds_toArray, List.set_cons_zero, List.set_cons_succ]
              refine heldNo 47 83 rfl (by kernel_rfl) (by kernel_rfl) (by kernel_rfl) (fun _ _ _ h => h) rfl (by assumption) ?_
              try simp only [List.setIfInBounds_toArray, List.set_cons_zero, List.set_cons_succ]
              refine heldNo 48 84 rfl (by kernel_rfl) (by kernel_rfl) (by kernel_rfl) (fun _ _ _ h => h) rfl (by assumption) ?_
              try simp only [List.setIfInBounds_toArray, List.set_cons_zero, List.set_cons_succ]
              refine heldY 49 85 ?_ _ rfl rfl (by kernel_rfl) (by kernel_rfl) (by kernel_rfl) (fun _ _ _ h => h) rfl (by assumption) ?_ ?_
              rotate_left
              · (intro w hSw; (try dsimp only at hSw); go_simp; (try with_reducible rfl))
              try simp only [List.setIfInBounds_toArray, List.set_cons_zero, List.set_cons_succ]
              refine wpAnyH_done (by kernel_rfl) ?_ _
              have HW4 := Lib.hid (BE _ hHeld)
              clear hHeld
              go_wp2
              go_ret
              exact ⟨retb HF.out, HB3.out.trans (HW4.out.mono HB3.out.size)⟩
            · simp only [decide_eq_false h2] at HN
              by_cases hk1 : 1 < k
              · obtain ⟨M, hM⟩ : ∃ M, (namesA x)[k - 1]? = some M := ⟨_, List.getElem?_eq_getElem (by rw [HNL.out, HSN.out]; omega)⟩
                have c2 := (HB.out.cell (p := ⟨nb, no + (k - 1), none⟩) hnb).trans (HNC.out (k - 1) M hM)
                have hls := lessT (⟨M.toArray⟩ : ByteArray) XN
                rw [bytesOf, HNB.out] at hls
                have HCASE : Hid ((decide (M < N) = true ∧ ∀ (j : Nat) a b, j < k + 1 → (linksA x)[j]? = some a → (namesA x)[j]? = some b → stepL x j a b) ∨ (decide (M < N) = false ∧ false = R)) := Lib.hid (by
                  by_cases g : M < N
                  · exact .inl ⟨decide_eq_true g, HNEXT.out ⟨hp, h1, hq, h2, fun _ p hp => by rw [hM] at hp; cases hp; exact g⟩⟩
                  · exact .inr ⟨decide_eq_false g, HBAD.out (fun q => g (q.2.2.2.2 hk1 M hM))⟩)
                obtain ⟨hs1, hs2, hs3⟩ := hs
                have hd : decide ((1 : Int) < (k : Int)) = true := decide_eq_true (by omega)
                have hkk : (1 : Int) ≤ (k : Int) := by omega
                have i0 : (0 : Int) ≤ (k : Int) - 1 := by omega
                have i1 : (k : Int) - 1 < (sn : Int) + 1 := by omega
                have i2 : ((k : Int) - 1).toNat = k - 1 := by omega
                have i3 : IntKind.i64.wrap ((k : Int) - 1) = (k : Int) - 1 := IntWalk.i64_in _ (by omega)
                generalize decide (M < N) = q at *
                generalize (⟨M.toArray⟩ : ByteArray) = XM at *
                have hs := And.intro hs1 (And.intro hs2 (And.intro c2 hs3))
                clear hp h1 h2 hq HBAD HNEXT hK hN hM hs1 hs2 hs3 c2
                go_wp2
                have BE := fun (V : World) (h : V.cell? ⟨kb, ko + k, none⟩ = some (.string XK) ∧ V.cell? ⟨nb, no + k, none⟩ = some (.string XN) ∧ V.cell? ⟨nb, no + (k - 1), none⟩ = some (.string XM) ∧ Below w3.heap.size w3 V) => AtF.be (w := w3) (l := [(⟨kb, ko + k, none⟩, .string XK), (⟨nb, no + k, none⟩, .string XN), (⟨nb, no + (k - 1), none⟩, .string XM)]) h
                refine wp_region_held_drew (S := (fun V => V.cell? ⟨kb, ko + k, none⟩ = some (.string XK) ∧ V.cell? ⟨nb, no + k, none⟩ = some (.string XN) ∧ V.cell? ⟨nb, no + (k - 1), none⟩ = some (.string XM) ∧ Below w3.heap.size w3 V)) (by kernel_rfl) ?_ (fun hHeld => ?_)
                · (try dsimp only); (first | assumption | exact hs | exact AtF.dr (w := w3) (l := [(⟨kb, ko + k, none⟩, .string XK), (⟨nb, no + k, none⟩, .string XN), (⟨nb, no + (k - 1), none⟩, .string XM)]) hs | exact AtF.dr (w := w3) (l := [(⟨kb, ko + k, none⟩, .string XK), (⟨nb, no + k, none⟩, .string XN), (⟨nb, no + (k - 1), none⟩, .string XM)]) (by assumption) | exact AtF.on (w := w3) (l := [(⟨kb, ko + k, none⟩, .string XK), (⟨nb, no + k, none⟩, .string XN), (⟨nb, no + (k - 1), none⟩, .string XM)]) (by assumption) (by assumption) | exact AtF.al (w := w3) (l := [(⟨kb, ko + k, none⟩, .string XK), (⟨nb, no + k, none⟩, .string XN), (⟨nb, no + (k - 1), none⟩, .string XM)]) (by assumption) _ | exact AtF.ald (w := w3) (l := [(⟨kb, ko + k, none⟩, .string XK), (⟨nb, no + k, none⟩, .string XN), (⟨nb, no + (k - 1), none⟩, .string XM)]) (by assumption) _ | exact AtF.al (w := w3) (l := [(⟨kb, ko + k, none⟩, .string XK), (⟨nb, no + k, none⟩, .string XN), (⟨nb, no + (k - 1), none⟩, .string XM)]) hs _ | exact AtF.ald (w := w3) (l := [(⟨kb, ko + k, none⟩, .string XK), (⟨nb, no + k, none⟩, .string XN), (⟨nb, no + (k - 1), none⟩, .string XM)]) hs _)
                refine heldY 0 36 ?_ _ rfl rfl (by kernel_rfl) (by kernel_rfl) (by kernel_rfl) (fun _ _ _ h => h) rfl (by assumption) ?_ ?_
                rotate_left
                · (intro w hSw; (try dsimp only at hSw); go_simp; (try with_reducible rfl))
                try simp only [List.setIfInBounds_toArray, List.set_cons_zero, List.set_cons_succ]
                refine heldY 1 37 ?_ _ rfl rfl (by kernel_rfl) (by kernel_rfl) (by kernel_rfl) (fun _ _ _ h => h) rfl (by assumption) ?_ ?_
                rotate_left
                · (intro w hSw; (try dsimp only at hSw); go_simp; (try with_reducible rfl))
                try simp only [List.setIfInBounds_toArray, List.set_cons_zero, List.set_cons_succ]
                refine heldY 2 38 ?_ _ rfl rfl (by kernel_rfl) (by kernel_rfl) (by kernel_rfl) (fun _ _ _ h => h) rfl (by assumption) ?_ ?_
                rotate_left
                · (intro w hSw; (try dsimp only at hSw); go_simp; (try with_reducible rfl))
                try simp only [List.setIfInBounds_toArray, List.set_cons_zero, List.set_cons_succ]
                refine heldY 3 39 ?_ _ rfl rfl (by kernel_rfl) (by kernel_rfl) (by kernel_rfl) (fun _ _ _ h => h) rfl (by assumption) ?_ ?_
                rotate_left
                · (intro w hSw; (try dsimp only at hSw); go_simp; (try with_reducible rfl))
                try simp only [List.setIfInBounds_toArray, List.set_cons_zero, List.set_cons_succ]
                refine wpAnyH_ready (rs := [4]) (by kernel_rfl) (by simp) ?_
                refine AllReadyH.cons rfl (fun K hK => ?_) AllReadyH.nil
                go_simp
                first | (go_at_call 71; (with_reducible refine (PL _).mono ?_); rintro e w4 ⟨rfl, hb⟩) | (go_at_call 72; first | ((with_reducible refine (HA _ (BE _ (by assumption))).mono ?_); rintro e w4 ⟨rfl, rfl⟩) | ((with_reducible refine (HN _ (BE _ (by assumption))).mono ?_); rintro e w4 ⟨rfl, rfl⟩)) | (go_at_call 73; (with_reducible refine (NM _).mono ?_); rintro e w4 ⟨rfl, rfl⟩)
                refine hK.out _ _ ?_ (fun hHeld => ?_)
                · (try dsimp only); (first | assumption | exact hs | exact AtF.dr (w := w3) (l := [(⟨kb, ko + k, none⟩, .string XK), (⟨nb, no + k, none⟩, .string XN), (⟨nb, no + (k - 1), none⟩, .string XM)]) hs | exact AtF.dr (w := w3) (l := [(⟨kb, ko + k, none⟩, .string XK), (⟨nb, no + k, none⟩, .string XN), (⟨nb, no + (k - 1), none⟩, .string XM)]) (by assumption) | exact AtF.on (w := w3) (l := [(⟨kb, ko + k, none⟩, .string XK), (⟨nb, no + k, none⟩, .string XN), (⟨nb, no + (k - 1), none⟩, .string XM)]) (by assumption) (by assumption) | exact AtF.al (w := w3) (l := [(⟨kb, ko + k, none⟩, .string XK), (⟨nb, no + k, none⟩, .string XN), (⟨nb, no + (k - 1), none⟩, .string XM)]) (by assumption) _ | exact AtF.ald (w := w3) (l := [(⟨kb, ko + k, none⟩, .string XK), (⟨nb, no + k, none⟩, .string XN), (⟨nb, no + (k - 1), none⟩, .string XM)]) (by assumption) _ | exact AtF.al (w := w3) (l := [(⟨kb, ko + k, none⟩, .string XK), (⟨nb, no + k, none⟩, .string XN), (⟨nb, no + (k - 1), none⟩, .string XM)]) hs _ | exact AtF.ald (w := w3) (l := [(⟨kb, ko + k, none⟩, .string XK), (⟨nb, no + k, none⟩, .string XN), (⟨nb, no + (k - 1), none⟩, .string XM)]) hs _)
                clear hK K
                try simp only [Act.put, List.setIfInBounds_toArray, List.set_cons_zero, List.set_cons_succ]
                refine heldY 5 41 ?_ _ rfl rfl (by kernel_rfl) (by kernel_rfl) (by kernel_rfl) (fun _ _ _ h => h) rfl (by assumption) ?_ ?_
                rotate_left
                · (intro w hSw; (try dsimp only at hSw); go_simp; (try with_reducible rfl))
                try simp only [List.setIfInBounds_toArray, List.set_cons_zero, List.set_cons_succ]
                refine heldY 6 42 ?_ _ rfl rfl (by kernel_rfl) (by kernel_rfl) (by kernel_rfl) (fun _ _ _ h => h) rfl (by assumption) ?_ ?_
                rotate_left
                · (intro w hSw; (try dsimp only at hSw); go_simp; (try with_reducible rfl))
                try simp only [List.setIfInBounds_toArray, List.set_cons_zero, List.set_cons_succ]
                refine heldY 7 43 ?_ _ rfl rfl (by kernel_rfl) (by kernel_rfl) (by kernel_rfl) (fun _ _ _ h => h) rfl (by assumption) ?_ ?_
                rotate_left
                · (intro w hSw; (try dsimp only at hSw); go_simp; (try with_reducible rfl))
                try simp only [List.setIfInBounds_toArray, List.set_cons_zero, List.set_cons_succ]
                refine heldY 8 44 ?_ _ rfl rfl (by kernel_rfl) (by kernel_rfl) (by kernel_rfl) (fun _ _ _ h => h) rfl (by assumption) ?_ ?_
                rotate_left
                · (intro w hSw; (try dsimp only at hSw); go_simp; (try with_reducible rfl))
                try simp only [List.setIfInBounds_toArray, List.set_cons_zero, List.set_cons_succ]
                refine heldY 9 45 ?_ _ rfl rfl (by kernel_rfl) (by kernel_rfl) (by kernel_rfl) (fun _ _ _ h => h) rfl (by assumption) ?_ ?_
                rotate_left
                · (intro w hSw; (try dsimp only at hSw); go_simp; (try with_reducible rfl))
                try simp only [List.setIfInBounds_toArray, List.set_cons_zero, List.set_cons_succ]
                refine heldY 10 46 ?_ _ rfl rfl (by kernel_rfl) (by kernel_rfl) (by kernel_rfl) (fun _ _ _ h => h) rfl (by assumption) ?_ ?_
                rotate_left
                · (intro w hSw; (try dsimp only at hSw); go_simp; (try with_reducible rfl))
                try simp only [List.setIfInBounds_toArray, List.set_cons_zero, List.set_cons_succ]
                refine heldY 11 47 ?_ _ rfl rfl (by kernel_rfl) (by kernel_rfl) (by kernel_rfl) (fun _ _ _ h => h) rfl (by assumption) ?_ ?_
                rotate_left
                · (intro w hSw; (try dsimp only at hSw); go_simp; (try with_reducible rfl))
                try simp only [List.setIfInBounds_toArray, List.set_cons_zero, List.set_cons_succ]
                refine heldY 12 48 ?_ _ rfl rfl (by kernel_rfl) (by kernel_rfl) (by kernel_rfl) (fun _ _ _ h => h) rfl (by assumption) ?_ ?_
                rotate_left
                · (intro w hSw; (try dsimp only at hSw); go_simp; (try with_reducible rfl))
                try simp only [List.setIfInBounds_toArray, List.set_cons_zero, List.set_cons_succ]
                refine heldY 13 49 ?_ _ rfl rfl (by kernel_rfl) (by kernel_rfl) (by kernel_rfl) (fun _ _ _ h => h) rfl (by assumption) ?_ ?_
                rotate_left
                · (intro w hSw; (try dsimp only at hSw); go_simp; (try with_reducible rfl))
                try simp only [List.setIfInBounds_toArray, List.set_cons_zero, List.set_cons_succ]
                refine wpAnyH_ready (rs := [14]) (by kernel_rfl) (by simp) ?_
                refine AllReadyH.cons rfl (fun K hK => ?_) AllReadyH.nil
                go_simp
                first | (go_at_call 71; (with_reducible refine (PL _).mono ?_); rintro e w4 ⟨rfl, hb⟩) | (go_at_call 72; first | ((with_reducible refine (HA _ (BE _ (by assumption))).mono ?_); rintro e w4 ⟨rfl, rfl⟩) | ((with_reducible refine (HN _ (BE _ (by assumption))).mono ?_); rintro e w4 ⟨rfl, rfl⟩)) | (go_at_call 73; (with_reducible refine (NM _).mono ?_); rintro e w4 ⟨rfl, rfl⟩)
                refine hK.out _ _ ?_ (fun hHeld => ?_)
                · (try dsimp only); (first | assumption | exact hs | exact AtF.dr (w := w3) (l := [(⟨kb, ko + k, none⟩, .string XK), (⟨nb, no + k, none⟩, .string XN), (⟨nb, no + (k - 1), none⟩, .string XM)]) hs | exact AtF.dr (w := w3) (l := [(⟨kb, ko + k, none⟩, .string XK), (⟨nb, no + k, none⟩, .string XN), (⟨nb, no + (k - 1), none⟩, .string XM)]) (by assumption) | exact AtF.on (w := w3) (l := [(⟨kb, ko + k, none⟩, .string XK), (⟨nb, no + k, none⟩, .string XN), (⟨nb, no + (k - 1), none⟩, .string XM)]) (by assumption) (by assumption) | exact AtF.al (w := w3) (l := [(⟨kb, ko + k, none⟩, .string XK), (⟨nb, no + k, none⟩, .string XN), (⟨nb, no + (k - 1), none⟩, .string XM)]) (by assumption) _ | exact AtF.ald (w := w3) (l := [(⟨kb, ko + k, none⟩, .string XK), (⟨nb, no + k, none⟩, .string XN), (⟨nb, no + (k - 1), none⟩, .string XM)]) (by assumption) _ | exact AtF.al (w := w3) (l := [(⟨kb, ko + k, none⟩, .string XK), (⟨nb, no + k, none⟩, .string XN), (⟨nb, no + (k - 1), none⟩, .string XM)]) hs _ | exact AtF.ald (w := w3) (l := [(⟨kb, ko + k, none⟩, .string XK), (⟨nb, no + k, none⟩, .string XN), (⟨nb, no + (k - 1), none⟩, .string XM)]) hs _)
                clear hK K
                try simp only [Act.put, List.setIfInBounds_toArray, List.set_cons_zero, List.set_cons_succ]
                refine heldY 15 51 ?_ _ rfl rfl (by kernel_rfl) (by kernel_rfl) (by kernel_rfl) (fun _ _ _ h => h) rfl (by assumption) ?_ ?_
                rotate_left
                · (intro w hSw; (try dsimp only at hSw); go_simp; (try with_reducible rfl))
                try simp only [List.setIfInBounds_toArray, List.set_cons_zero, List.set_cons_succ]
                refine heldY 16 52 ?_ _ rfl rfl (by kernel_rfl) (by kernel_rfl) (by kernel_rfl) (fun _ _ _ h => h) rfl (by assumption) ?_ ?_
                rotate_left
                · (intro w hSw; (try dsimp only at hSw); go_simp; (try with_reducible rfl))
                try simp only [List.setIfInBounds_toArray, List.set_cons_zero, List.set_cons_succ]
                refine heldY 17 53 ?_ _ rfl rfl (by kernel_rfl) (by kernel_rfl) (by kernel_rfl) (fun _ _ _ h => h) rfl (by assumption) ?_ ?_
                rotate_left
                · (intro w hSw; (try dsimp only at hSw); go_simp; (try with_reducible rfl))
                try simp only [List.setIfInBounds_toArray, List.set_cons_zero, List.set_cons_succ]
                refine heldY 18 54 ?_ _ rfl rfl (by kernel_rfl) (by kernel_rfl) (by kernel_rfl) (fun _ _ _ h => h) rfl (by assumption) ?_ ?_
                rotate_left
                · (intro w hSw; (try dsimp only at hSw); go_simp; (try with_reducible rfl))
                try simp only [List.setIfInBounds_toArray, List.set_cons_zero, List.set_cons_succ]
                refine heldY 19 55 ?_ _ rfl rfl (by kernel_rfl) (by kernel_rfl) (by kernel_rfl) (fun _ _ _ h => h) rfl (by assumption) ?_ ?_
                rotate_left
                · (intro w hSw; (try dsimp only at hSw); go_simp; (try with_reducible rfl))
                try simp only [List.setIfInBounds_toArray, List.set_cons_zero, List.set_cons_succ]
                refine heldY 20 56 ?_ _ rfl rfl (by kernel_rfl) (by kernel_rfl) (by kernel_rfl) (fun _ _ _ h => h) rfl (by assumption) ?_ ?_
                rotate_left
                · (intro w hSw; (try dsimp only at hSw); go_simp; (try with_reducible rfl))
                try simp only [List.setIfInBounds_toArray, List.set_cons_zero, List.set_cons_succ]
                refine wpAnyH_ready (rs := [21]) (by kernel_rfl) (by simp) ?_
                refine AllReadyH.cons rfl (fun K hK => ?_) AllReadyH.nil
                go_simp
                first | (go_at_call 71; (with_reducible refine (PL _).mono ?_); rintro e w4 ⟨rfl, hb⟩) | (go_at_call 72; first | ((with_reducible refine (HA _ (BE _ (by assumption))).mono ?_); rintro e w4 ⟨rfl, rfl⟩) | ((with_reducible refine (HN _ (BE _ (by assumption))).mono ?_); rintro e w4 ⟨rfl, rfl⟩)) | (go_at_call 73; (with_reducible refine (NM _).mono ?_); rintro e w4 ⟨rfl, rfl⟩)
                refine hK.out _ _ ?_ (fun hHeld => ?_)
                · (try dsimp only); (first | assumption | exact hs | exact AtF.dr (w := w3) (l := [(⟨kb, ko + k, none⟩, .string XK), (⟨nb, no + k, none⟩, .string XN), (⟨nb, no + (k - 1), none⟩, .string XM)]) hs | exact AtF.dr (w := w3) (l := [(⟨kb, ko + k, none⟩, .string XK), (⟨nb, no + k, none⟩, .string XN), (⟨nb, no + (k - 1), none⟩, .string XM)]) (by assumption) | exact AtF.on (w := w3) (l := [(⟨kb, ko + k, none⟩, .string XK), (⟨nb, no + k, none⟩, .string XN), (⟨nb, no + (k - 1), none⟩, .string XM)]) (by assumption) (by assumption) | exact AtF.al (w := w3) (l := [(⟨kb, ko + k, none⟩, .string XK), (⟨nb, no + k, none⟩, .string XN), (⟨nb, no + (k - 1), none⟩, .string XM)]) (by assumption) _ | exact AtF.ald (w := w3) (l := [(⟨kb, ko + k, none⟩, .string XK), (⟨nb, no + k, none⟩, .string XN), (⟨nb, no + (k - 1), none⟩, .string XM)]) (by assumption) _ | exact AtF.al (w := w3) (l := [(⟨kb, ko + k, none⟩, .string XK), (⟨nb, no + k, none⟩, .string XN), (⟨nb, no + (k - 1), none⟩, .string XM)]) hs _ | exact AtF.ald (w := w3) (l := [(⟨kb, ko + k, none⟩, .string XK), (⟨nb, no + k, none⟩, .string XN), (⟨nb, no + (k - 1), none⟩, .string XM)]) hs _)
                clear hK K
                try simp only [Act.put, List.setIfInBounds_toArray, List.set_cons_zero, List.set_cons_succ]
                refine heldY 22 58 ?_ _ rfl rfl (by kernel_rfl) (by kernel_rfl) (by kernel_rfl) (fun _ _ _ h => h) rfl (by assumption) ?_ ?_
                rotate_left
                · (intro w hSw; (try dsimp only at hSw); go_simp; (try with_reducible rfl))
                try simp only [List.setIfInBounds_toArray, List.set_cons_zero, List.set_cons_succ]
                refine heldY 23 59 ?_ _ rfl rfl (by kernel_rfl) (by kernel_rfl) (by kernel_rfl) (fun _ _ _ h => h) rfl (by assumption) ?_ ?_
                rotate_left
                · (intro w hSw; (try dsimp only at hSw); go_simp; (try with_reducible rfl))
                try simp only [List.setIfInBounds_toArray, List.set_cons_zero, List.set_cons_succ]
                refine heldY 24 60 ?_ _ rfl rfl (by kernel_rfl) (by kernel_rfl) (by kernel_rfl) (fun _ _ _ h => h) rfl (by assumption) ?_ ?_
                rotate_left
                · (intro w hSw; (try dsimp only at hSw); go_simp; (try with_reducible rfl))
                try simp only [List.setIfInBounds_toArray, List.set_cons_zero, List.set_cons_succ]
                refine heldY 25 61 ?_ _ rfl rfl (by kernel_rfl) (by kernel_rfl) (by kernel_rfl) (fun _ _ _ h => h) rfl (by assumption) ?_ ?_
                rotate_left
                · (intro w hSw; (try dsimp only at hSw); go_simp; (try with_reducible rfl))
                try simp only [List.setIfInBounds_toArray, List.set_cons_zero, List.set_cons_succ]
                refine heldY 26 62 ?_ _ rfl rfl (by kernel_rfl) (by kernel_rfl) (by kernel_rfl) (fun _ _ _ h => h) rfl (by assumption) ?_ ?_
                rotate_left
                · (intro w hSw; (try dsimp only at hSw); go_simp; (try with_reducible rfl))
                try simp only [List.setIfInBounds_toArray, List.set_cons_zero, List.set_cons_succ]
                refine heldY 27 63 ?_ _ rfl rfl (by kernel_rfl) (by kernel_rfl) (by kernel_rfl) (fun _ _ _ h => h) rfl (by assumption) ?_ ?_
                rotate_left
                · (intro w hSw; (try dsimp only at hSw); go_simp; (try with_reducible rfl))
                try simp only [List.setIfInBounds_toArray, List.set_cons_zero, List.set_cons_succ]
                refine heldY 28 64 ?_ _ rfl rfl (by kernel_rfl) (by kernel_rfl) (by kernel_rfl) (fun _ _ _ h => h) rfl (by assumption) ?_ ?_
                rotate_left
                · (intro w hSw; (try dsimp only at hSw); go_simp; (try with_reducible rfl))
                try simp only [List.setIfInBounds_toArray, List.set_cons_zero, List.set_cons_succ]
                refine heldY 29 65 ?_ _ rfl rfl (by kernel_rfl) (by kernel_rfl) (by kernel_rfl) (fun _ _ _ h => h) rfl (by assumption) ?_ ?_
                rotate_left
                · (intro w hSw; (try dsimp only at hSw); go_simp; (try with_reducible rfl))
                try simp only [List.setIfInBounds_toArray, List.set_cons_zero, List.set_cons_succ]
                refine heldY 30 66 ?_ _ rfl rfl (by kernel_rfl) (by kernel_rfl) (by kernel_rfl) (fun _ _ _ h => h) rfl (by assumption) ?_ ?_
                rotate_left
                · (intro w hSw; (try dsimp only at hSw); go_simp; (try with_reducible rfl))
                try simp only [List.setIfInBounds_toArray, List.set_cons_zero, List.set_cons_succ]
                refine heldY 31 67 ?_ _ rfl rfl (by kernel_rfl) (by kernel_rfl) (by kernel_rfl) (fun _ _ _ h => h) rfl (by assumption) ?_ ?_
                rotate_left
                · (intro w hSw; (try dsimp only at hSw); go_simp; (try with_reducible rfl))
                try simp only [List.setIfInBounds_toArray, List.set_cons_zero, List.set_cons_succ]
                refine wpAnyH_ready (rs := [32]) (by kernel_rfl) (by simp) ?_
                refine AllReadyH.cons rfl (fun K hK => ?_) AllReadyH.nil
                go_simp
                first | (go_at_call 71; (with_reducible refine (PL _).mono ?_); rintro e w4 ⟨rfl, hb⟩) | (go_at_call 72; first | ((with_reducible refine (HA _ (BE _ (by assumption))).mono ?_); rintro e w4 ⟨rfl, rfl⟩) | ((with_reducible refine (HN _ (BE _ (by assumption))).mono ?_); rintro e w4 ⟨rfl, rfl⟩)) | (go_at_call 73; (with_reducible refine (NM _).mono ?_); rintro e w4 ⟨rfl, rfl⟩)
                refine hK.out _ _ ?_ (fun hHeld => ?_)
                · (try dsimp only); (first | assumption | exact hs | exact AtF.dr (w := w3) (l := [(⟨kb, ko + k, none⟩, .string XK), (⟨nb, no + k, none⟩, .string XN), (⟨nb, no + (k - 1), none⟩, .string XM)]) hs | exact AtF.dr (w := w3) (l := [(⟨kb, ko + k, none⟩, .string XK), (⟨nb, no + k, none⟩, .string XN), (⟨nb, no + (k - 1), none⟩, .string XM)]) (by assumption) | exact AtF.on (w := w3) (l := [(⟨kb, ko + k, none⟩, .string XK), (⟨nb, no + k, none⟩, .string XN), (⟨nb, no + (k - 1), none⟩, .string XM)]) (by assumption) (by assumption) | exact AtF.al (w := w3) (l := [(⟨kb, ko + k, none⟩, .string XK), (⟨nb, no + k, none⟩, .string XN), (⟨nb, no + (k - 1), none⟩, .string XM)]) (by assumption) _ | exact AtF.ald (w := w3) (l := [(⟨kb, ko + k, none⟩, .string XK), (⟨nb, no + k, none⟩, .string XN), (⟨nb, no + (k - 1), none⟩, .string XM)]) (by assumption) _ | exact AtF.al (w := w3) (l := [(⟨kb, ko + k, none⟩, .string XK), (⟨nb, no + k, none⟩, .string XN), (⟨nb, no + (k - 1), none⟩, .string XM)]) hs _ | exact AtF.ald (w := w3) (l := [(⟨kb, ko + k, none⟩, .string XK), (⟨nb, no + k, none⟩, .string XN), (⟨nb, no + (k - 1), none⟩, .string XM)]) hs _)
                clear hK K
                try simp only [Act.put, List.setIfInBounds_toArray, List.set_cons_zero, List.set_cons_succ]
                refine heldY 33 69 ?_ _ rfl rfl (by kernel_rfl) (by kernel_rfl) (by kernel_rfl) (fun _ _ _ h => h) rfl (by assumption) ?_ ?_
                rotate_left
                · (intro w hSw; (try dsimp only at hSw); go_simp; (try with_reducible rfl))
                try simp only [List.setIfInBounds_toArray, List.set_cons_zero, List.set_cons_succ]
                refine heldY 34 70 ?_ _ rfl rfl (by kernel_rfl) (by kernel_rfl) (by kernel_rfl) (fun _ _ _ h => h) rfl (by assumption) ?_ ?_
                rotate_left
                · (intro w hSw; (try dsimp only at hSw); go_simp; (try with_reducible rfl))
                try simp only [List.setIfInBounds_toArray, List.set_cons_zero, List.set_cons_succ]
                refine heldY 35 71 ?_ _ rfl rfl (by kernel_rfl) (by kernel_rfl) (by kernel_rfl) (fun _ _ _ h => h) rfl (by assumption) ?_ ?_
                rotate_left
                · (intro w hSw; (try dsimp only at hSw); go_simp; (try with_reducible rfl))
                try simp only [List.setIfInBounds_toArray, List.set_cons_zero, List.set_cons_succ]
                refine heldY 36 72 ?_ _ rfl rfl (by kernel_rfl) (by kernel_rfl) (by kernel_rfl) (fun _ _ _ h => h) rfl (by assumption) ?_ ?_
                rotate_left
                · (intro w hSw; (try dsimp only at hSw); go_simp; (try with_reducible rfl))
                try simp only [List.setIfInBounds_toArray, List.set_cons_zero, List.set_cons_succ]
                refine heldY 37 73 ?_ _ rfl rfl (by kernel_rfl) (by kernel_rfl) (by kernel_rfl) (fun _ _ _ h => h) rfl (by assumption) ?_ ?_
                rotate_left
                · (intro w hSw; (try dsimp only at hSw); go_simp; (try with_reducible rfl))
                try simp only [List.setIfInBounds_toArray, List.set_cons_zero, List.set_cons_succ]
                refine heldY 38 74 ?_ _ rfl rfl (by kernel_rfl) (by kernel_rfl) (by kernel_rfl) (fun _ _ _ h => h) rfl (by assumption) ?_ ?_
                rotate_left
                · (intro w hSw; (try dsimp only at hSw); go_simp; (try with_reducible rfl))
                try simp only [List.setIfInBounds_toArray, List.set_cons_zero, List.set_cons_succ]
                refine heldY 39 75 ?_ _ rfl rfl (by kernel_rfl) (by kernel_rfl) (by kernel_rfl) (fun _ _ _ h => h) rfl (by assumption) ?_ ?_
                rotate_left
                · (intro w hSw; (try dsimp only at hSw); go_simp; (try with_reducible rfl))
                try simp only [List.setIfInBounds_toArray, List.set_cons_zero, List.set_cons_succ]
                refine heldY 40 76 ?_ _ rfl rfl (by kernel_rfl) (by kernel_rfl) (by kernel_rfl) (fun _ _ _ h => h) rfl (by assumption) ?_ ?_
                rotate_left
                · (intro w hSw; (try dsimp only at hSw); go_simp; (try with_reducible rfl))
                try simp only [List.setIfInBounds_toArray, List.set_cons_zero, List.set_cons_succ]
                refine heldY 41 77 ?_ _ rfl rfl (by kernel_rfl) (by kernel_rfl) (by kernel_rfl) (fun _ _ _ h => h) rfl (by assumption) ?_ ?_
                rotate_left
                · (intro w hSw; (try dsimp only at hSw); go_simp; (try with_reducible rfl))
                try simp only [List.setIfInBounds_toArray, List.set_cons_zero, List.set_cons_succ]
                refine heldY 42 78 ?_ _ rfl rfl (by kernel_rfl) (by kernel_rfl) (by kernel_rfl) (fun _ _ _ h => h) rfl (by assumption) ?_ ?_
                rotate_left
                · (intro w hSw; (try dsimp only at hSw); go_simp; (try with_reducible rfl))
                try simp only [List.setIfInBounds_toArray, List.set_cons_zero, List.set_cons_succ]
                refine heldY 43 79 ?_ _ rfl rfl (by kernel_rfl) (by kernel_rfl) (by kernel_rfl) (fun _ _ _ h => h) rfl (by assumption) ?_ ?_
                rotate_left
                · (intro w hSw; (try dsimp only at hSw); go_simp; (try with_reducible rfl))
                try simp only [List.setIfInBounds_toArray, List.set_cons_zero, List.set_cons_succ]
                refine heldY 44 80 ?_ _ rfl rfl (by kernel_rfl) (by kernel_rfl) (by kernel_rfl) (fun _ _ _ h => h) rfl (by assumption) ?_ ?_
                rotate_left
                · (intro w hSw; (try dsimp only at hSw); go_simp; (try with_reducible rfl))
                try simp only [List.setIfInBounds_toArray, List.set_cons_zero, List.set_cons_succ]
                refine heldY 45 81 ?_ _ rfl rfl (by kernel_rfl) (by kernel_rfl) (by kernel_rfl) (fun _ _ _ h => h) rfl (by assumption) ?_ ?_
                rotate_left
                · (intro w hSw; (try dsimp only at hSw); go_simp; (try with_reducible rfl))
                try simp only [List.setIfInBounds_toArray, List.set_cons_zero, List.set_cons_succ]
                refine heldY 46 82 ?_ _ rfl rfl (by kernel_rfl) (by kernel_rfl) (by kernel_rfl) (fun _ _ _ h => h) rfl (by assumption) ?_ ?_
                rotate_left
                · (intro w hSw; (try dsimp only at hSw); go_simp; (try with_reducible rfl))
                try simp only [List.setIfInBounds_toArray, List.set_cons_zero, List.set_cons_succ]
                refine heldY 47 83 ?_ _ rfl rfl (by kernel_rfl) (by kernel_rfl) (by kernel_rfl) (fun _ _ _ h => h) rfl (by assumption) ?_ ?_
                rotate_left
                · (intro w hSw; (try dsimp only at hSw); go_simp; (try with_reducible rfl))
                try simp only [List.setIfInBounds_toArray, List.set_cons_zero, List.set_cons_succ]
                refine heldY 48 84 ?_ _ rfl rfl (by kernel_rfl) (by kernel_rfl) (by kernel_rfl) (fun _ _ _ h => h) rfl (by assumption) ?_ ?_
                rotate_left
                · (intro w hSw; (try dsimp only at hSw); go_simp; (try with_reducible rfl))
                try simp only [List.setIfInBounds_toArray, List.set_cons_zero, List.set_cons_succ]
                refine heldY 49 85 ?_ _ rfl rfl (by kernel_rfl) (by kernel_rfl) (by kernel_rfl) (fun _ _ _ h => h) rfl (by assumption) ?_ ?_
                rotate_left
                · (intro w hSw; (try dsimp only at hSw); go_simp; (try with_reducible rfl))
                try simp only [List.setIfInBounds_toArray, List.set_cons_zero, List.set_cons_succ]
                refine wpAnyH_done (by kernel_rfl) ?_ _
                have HW4 := Lib.hid (BE _ hHeld)
                clear hHeld
                clear i2 i3
                rcases HCASE.out with ⟨hq, HK⟩ | ⟨hq, HF⟩
                · subst hq
                  have HK := Lib.hid HK
                  clear HCASE
                  go_wp2
                  go_roundw
                  case rel => exact ⟨k + 1, by omega, by go_num, HK, HW4⟩
                  case measure => simp [intOf]; omega
                · subst hq
                  have HF := Lib.hid HF
                  clear HCASE
                  go_wp2
                  go_ret
                  exact ⟨retb HF.out, HB3.out.trans (HW4.out.mono HB3.out.size)⟩
              · have HK := Lib.hid (HNEXT.out ⟨hp, h1, hq, h2, fun g => absurd g hk1⟩)
                have hd : decide ((1 : Int) < (k : Int)) = false := decide_eq_false (by omega)
                clear hp h1 h2 hq HBAD HNEXT hK hN
                go_wp2
                have BE := fun (V : World) (h : V.cell? ⟨kb, ko + k, none⟩ = some (.string XK) ∧ V.cell? ⟨nb, no + k, none⟩ = some (.string XN) ∧ Below w3.heap.size w3 V) => AtF.be (w := w3) (l := [(⟨kb, ko + k, none⟩, .string XK), (⟨nb, no + k, none⟩, .string XN)]) h
                refine wp_region_held_drew (S := (fun V => V.cell? ⟨kb, ko + k, none⟩ = some (.string XK) ∧ V.cell? ⟨nb, no + k, none⟩ = some (.string XN) ∧ Below w3.heap.size w3 V)) (by kernel_rfl) ?_ (fun hHeld => ?_)
                · (try dsimp only); (first | assumption | exact hs | exact AtF.dr (w := w3) (l := [(⟨kb, ko + k, none⟩, .string XK), (⟨nb, no + k, none⟩, .string XN)]) hs | exact AtF.dr (w := w3) (l := [(⟨kb, ko + k, none⟩, .string XK), (⟨nb, no + k, none⟩, .string XN)]) (by assumption) | exact AtF.on (w := w3) (l := [(⟨kb, ko + k, none⟩, .string XK), (⟨nb, no + k, none⟩, .string XN)]) (by assumption) (by assumption) | exact AtF.al (w := w3) (l := [(⟨kb, ko + k, none⟩, .string XK), (⟨nb, no + k, none⟩, .string XN)]) (by assumption) _ | exact AtF.ald (w := w3) (l := [(⟨kb, ko + k, none⟩, .string XK), (⟨nb, no + k, none⟩, .string XN)]) (by assumption) _ | exact AtF.al (w := w3) (l := [(⟨kb, ko + k, none⟩, .string XK), (⟨nb, no + k, none⟩, .string XN)]) hs _ | exact AtF.ald (w := w3) (l := [(⟨kb, ko + k, none⟩, .string XK), (⟨nb, no + k, none⟩, .string XN)]) hs _)
                refine heldY 0 36 ?_ _ rfl rfl (by kernel_rfl) (by kernel_rfl) (by kernel_rfl) (fun _ _ _ h => h) rfl (by assumption) ?_ ?_
                rotate_left
                · (intro w hSw; (try dsimp only at hSw); go_simp; (try with_reducible rfl))
                try simp only [List.setIfInBounds_toArray, List.set_cons_zero, List.set_cons_succ]
                refine heldY 1 37 ?_ _ rfl rfl (by kernel_rfl) (by kernel_rfl) (by kernel_rfl) (fun _ _ _ h => h) rfl (by assumption) ?_ ?_
                rotate_left
                · (intro w hSw; (try dsimp only at hSw); go_simp; (try with_reducible rfl))
                try simp only [List.setIfInBounds_toArray, List.set_cons_zero, List.set_cons_succ]
                refine heldY 2 38 ?_ _ rfl rfl (by kernel_rfl) (by kernel_rfl) (by kernel_rfl) (fun _ _ _ h => h) rfl (by assumption) ?_ ?_
                rotate_left
                · (intro w hSw; (try dsimp only at hSw); go_simp; (try with_reducible rfl))
                try simp only [List.setIfInBounds_toArray, List.set_cons_zero, List.set_cons_succ]
                refine heldY 3 39 ?_ _ rfl rfl (by kernel_rfl) (by kernel_rfl) (by kernel_rfl) (fun _ _ _ h => h) rfl (by assumption) ?_ ?_
                rotate_left
                · (intro w hSw; (try dsimp only at hSw); go_simp; (try with_reducible rfl))
                try simp only [List.setIfInBounds_toArray, List.set_cons_zero, List.set_cons_succ]
                refine wpAnyH_ready (rs := [4]) (by kernel_rfl) (by simp) ?_
                refine AllReadyH.cons rfl (fun K hK => ?_) AllReadyH.nil
                go_simp
                first | (go_at_call 71; (with_reducible refine (PL _).mono ?_); rintro e w4 ⟨rfl, hb⟩) | (go_at_call 72; first | ((with_reducible refine (HA _ (BE _ (by assumption))).mono ?_); rintro e w4 ⟨rfl, rfl⟩) | ((with_reducible refine (HN _ (BE _ (by assumption))).mono ?_); rintro e w4 ⟨rfl, rfl⟩)) | (go_at_call 73; (with_reducible refine (NM _).mono ?_); rintro e w4 ⟨rfl, rfl⟩)
                refine hK.out _ _ ?_ (fun hHeld => ?_)
                · (try dsimp only); (first | assumption | exact hs | exact AtF.dr (w := w3) (l := [(⟨kb, ko + k, none⟩, .string XK), (⟨nb, no + k, none⟩, .string XN)]) hs | exact AtF.dr (w := w3) (l := [(⟨kb, ko + k, none⟩, .string XK), (⟨nb, no + k, none⟩, .string XN)]) (by assumption) | exact AtF.on (w := w3) (l := [(⟨kb, ko + k, none⟩, .string XK), (⟨nb, no + k, none⟩, .string XN)]) (by assumption) (by assumption) | exact AtF.al (w := w3) (l := [(⟨kb, ko + k, none⟩, .string XK), (⟨nb, no + k, none⟩, .string XN)]) (by assumption) _ | exact AtF.ald (w := w3) (l := [(⟨kb, ko + k, none⟩, .string XK), (⟨nb, no + k, none⟩, .string XN)]) (by assumption) _ | exact AtF.al (w := w3) (l := [(⟨kb, ko + k, none⟩, .string XK), (⟨nb, no + k, none⟩, .string XN)]) hs _ | exact AtF.ald (w := w3) (l := [(⟨kb, ko + k, none⟩, .string XK), (⟨nb, no + k, none⟩, .string XN)]) hs _)
                clear hK K
                try simp only [Act.put, List.setIfInBounds_toArray, List.set_cons_zero, List.set_cons_succ]
                refine heldY 5 41 ?_ _ rfl rfl (by kernel_rfl) (by kernel_rfl) (by kernel_rfl) (fun _ _ _ h => h) rfl (by assumption) ?_ ?_
                rotate_left
                · (intro w hSw; (try dsimp only at hSw); go_simp; (try with_reducible rfl))
                try simp only [List.setIfInBounds_toArray, List.set_cons_zero, List.set_cons_succ]
                refine heldY 6 42 ?_ _ rfl rfl (by kernel_rfl) (by kernel_rfl) (by kernel_rfl) (fun _ _ _ h => h) rfl (by assumption) ?_ ?_
                rotate_left
                · (intro w hSw; (try dsimp only at hSw); go_simp; (try with_reducible rfl))
                try simp only [List.setIfInBounds_toArray, List.set_cons_zero, List.set_cons_succ]
                refine heldY 7 43 ?_ _ rfl rfl (by kernel_rfl) (by kernel_rfl) (by kernel_rfl) (fun _ _ _ h => h) rfl (by assumption) ?_ ?_
                rotate_left
                · (intro w hSw; (try dsimp only at hSw); go_simp; (try with_reducible rfl))
                try simp only [List.setIfInBounds_toArray, List.set_cons_zero, List.set_cons_succ]
                refine heldY 8 44 ?_ _ rfl rfl (by kernel_rfl) (by kernel_rfl) (by kernel_rfl) (fun _ _ _ h => h) rfl (by assumption) ?_ ?_
                rotate_left
                · (intro w hSw; (try dsimp only at hSw); go_simp; (try with_reducible rfl))
                try simp only [List.setIfInBounds_toArray, List.set_cons_zero, List.set_cons_succ]
                refine heldY 9 45 ?_ _ rfl rfl (by kernel_rfl) (by kernel_rfl) (by kernel_rfl) (fun _ _ _ h => h) rfl (by assumption) ?_ ?_
                rotate_left
                · (intro w hSw; (try dsimp only at hSw); go_simp; (try with_reducible rfl))
                try simp only [List.setIfInBounds_toArray, List.set_cons_zero, List.set_cons_succ]
                refine heldY 10 46 ?_ _ rfl rfl (by kernel_rfl) (by kernel_rfl) (by kernel_rfl) (fun _ _ _ h => h) rfl (by assumption) ?_ ?_
                rotate_left
                · (intro w hSw; (try dsimp only at hSw); go_simp; (try with_reducible rfl))
                try simp only [List.setIfInBounds_toArray, List.set_cons_zero, List.set_cons_succ]
                refine heldY 11 47 ?_ _ rfl rfl (by kernel_rfl) (by kernel_rfl) (by kernel_rfl) (fun _ _ _ h => h) rfl (by assumption) ?_ ?_
                rotate_left
                · (intro w hSw; (try dsimp only at hSw); go_simp; (try with_reducible rfl))
                try simp only [List.setIfInBounds_toArray, List.set_cons_zero, List.set_cons_succ]
                refine heldY 12 48 ?_ _ rfl rfl (by kernel_rfl) (by kernel_rfl) (by kernel_rfl) (fun _ _ _ h => h) rfl (by assumption) ?_ ?_
                rotate_left
                · (intro w hSw; (try dsimp only at hSw); go_simp; (try with_reducible rfl))
                try simp only [List.setIfInBounds_toArray, List.set_cons_zero, List.set_cons_succ]
                refine heldY 13 49 ?_ _ rfl rfl (by kernel_rfl) (by kernel_rfl) (by kernel_rfl) (fun _ _ _ h => h) rfl (by assumption) ?_ ?_
                rotate_left
                · (intro w hSw; (try dsimp only at hSw); go_simp; (try with_reducible rfl))
                try simp only [List.setIfInBounds_toArray, List.set_cons_zero, List.set_cons_succ]
                refine wpAnyH_ready (rs := [14]) (by kernel_rfl) (by simp) ?_
                refine AllReadyH.cons rfl (fun K hK => ?_) AllReadyH.nil
                go_simp
                first | (go_at_call 71; (with_reducible refine (PL _).mono ?_); rintro e w4 ⟨rfl, hb⟩) | (go_at_call 72; first | ((with_reducible refine (HA _ (BE _ (by assumption))).mono ?_); rintro e w4 ⟨rfl, rfl⟩) | ((with_reducible refine (HN _ (BE _ (by assumption))).mono ?_); rintro e w4 ⟨rfl, rfl⟩)) | (go_at_call 73; (with_reducible refine (NM _).mono ?_); rintro e w4 ⟨rfl, rfl⟩)
                refine hK.out _ _ ?_ (fun hHeld => ?_)
                · (try dsimp only); (first | assumption | exact hs | exact AtF.dr (w := w3) (l := [(⟨kb, ko + k, none⟩, .string XK), (⟨nb, no + k, none⟩, .string XN)]) hs | exact AtF.dr (w := w3) (l := [(⟨kb, ko + k, none⟩, .string XK), (⟨nb, no + k, none⟩, .string XN)]) (by assumption) | exact AtF.on (w := w3) (l := [(⟨kb, ko + k, none⟩, .string XK), (⟨nb, no + k, none⟩, .string XN)]) (by assumption) (by assumption) | exact AtF.al (w := w3) (l := [(⟨kb, ko + k, none⟩, .string XK), (⟨nb, no + k, none⟩, .string XN)]) (by assumption) _ | exact AtF.ald (w := w3) (l := [(⟨kb, ko + k, none⟩, .string XK), (⟨nb, no + k, none⟩, .string XN)]) (by assumption) _ | exact AtF.al (w := w3) (l := [(⟨kb, ko + k, none⟩, .string XK), (⟨nb, no + k, none⟩, .string XN)]) hs _ | exact AtF.ald (w := w3) (l := [(⟨kb, ko + k, none⟩, .string XK), (⟨nb, no + k, none⟩, .string XN)]) hs _)
                clear hK K
                try simp only [Act.put, List.setIfInBounds_toArray, List.set_cons_zero, List.set_cons_succ]
                refine heldY 15 51 ?_ _ rfl rfl (by kernel_rfl) (by kernel_rfl) (by kernel_rfl) (fun _ _ _ h => h) rfl (by assumption) ?_ ?_
                rotate_left
                · (intro w hSw; (try dsimp only at hSw); go_simp; (try with_reducible rfl))
                try simp only [List.setIfInBounds_toArray, List.set_cons_zero, List.set_cons_succ]
                refine heldY 16 52 ?_ _ rfl rfl (by kernel_rfl) (by kernel_rfl) (by kernel_rfl) (fun _ _ _ h => h) rfl (by assumption) ?_ ?_
                rotate_left
                · (intro w hSw; (try dsimp only at hSw); go_simp; (try with_reducible rfl))
                try simp only [List.setIfInBounds_toArray, List.set_cons_zero, List.set_cons_succ]
                refine heldY 17 53 ?_ _ rfl rfl (by kernel_rfl) (by kernel_rfl) (by kernel_rfl) (fun _ _ _ h => h) rfl (by assumption) ?_ ?_
                rotate_left
                · (intro w hSw; (try dsimp only at hSw); go_simp; (try with_reducible rfl))
                try simp only [List.setIfInBounds_toArray, List.set_cons_zero, List.set_cons_succ]
                refine heldY 18 54 ?_ _ rfl rfl (by kernel_rfl) (by kernel_rfl) (by kernel_rfl) (fun _ _ _ h => h) rfl (by assumption) ?_ ?_
                rotate_left
                · (intro w hSw; (try dsimp only at hSw); go_simp; (try with_reducible rfl))
                try simp only [List.setIfInBounds_toArray, List.set_cons_zero, List.set_cons_succ]
                refine heldY 19 55 ?_ _ rfl rfl (by kernel_rfl) (by kernel_rfl) (by kernel_rfl) (fun _ _ _ h => h) rfl (by assumption) ?_ ?_
                rotate_left
                · (intro w hSw; (try dsimp only at hSw); go_simp; (try with_reducible rfl))
                try simp only [List.setIfInBounds_toArray, List.set_cons_zero, List.set_cons_succ]
                refine heldY 20 56 ?_ _ rfl rfl (by kernel_rfl) (by kernel_rfl) (by kernel_rfl) (fun _ _ _ h => h) rfl (by assumption) ?_ ?_
                rotate_left
                · (intro w hSw; (try dsimp only at hSw); go_simp; (try with_reducible rfl))
                try simp only [List.setIfInBounds_toArray, List.set_cons_zero, List.set_cons_succ]
                refine wpAnyH_ready (rs := [21]) (by kernel_rfl) (by simp) ?_
                refine AllReadyH.cons rfl (fun K hK => ?_) AllReadyH.nil
                go_simp
                first | (go_at_call 71; (with_reducible refine (PL _).mono ?_); rintro e w4 ⟨rfl, hb⟩) | (go_at_call 72; first | ((with_reducible refine (HA _ (BE _ (by assumption))).mono ?_); rintro e w4 ⟨rfl, rfl⟩) | ((with_reducible refine (HN _ (BE _ (by assumption))).mono ?_); rintro e w4 ⟨rfl, rfl⟩)) | (go_at_call 73; (with_reducible refine (NM _).mono ?_); rintro e w4 ⟨rfl, rfl⟩)
                refine hK.out _ _ ?_ (fun hHeld => ?_)
                · (try dsimp only); (first | assumption | exact hs | exact AtF.dr (w := w3) (l := [(⟨kb, ko + k, none⟩, .string XK), (⟨nb, no + k, none⟩, .string XN)]) hs | exact AtF.dr (w := w3) (l := [(⟨kb, ko + k, none⟩, .string XK), (⟨nb, no + k, none⟩, .string XN)]) (by assumption) | exact AtF.on (w := w3) (l := [(⟨kb, ko + k, none⟩, .string XK), (⟨nb, no + k, none⟩, .string XN)]) (by assumption) (by assumption) | exact AtF.al (w := w3) (l := [(⟨kb, ko + k, none⟩, .string XK), (⟨nb, no + k, none⟩, .string XN)]) (by assumption) _ | exact AtF.ald (w := w3) (l := [(⟨kb, ko + k, none⟩, .string XK), (⟨nb, no + k, none⟩, .string XN)]) (by assumption) _ | exact AtF.al (w := w3) (l := [(⟨kb, ko + k, none⟩, .string XK), (⟨nb, no + k, none⟩, .string XN)]) hs _ | exact AtF.ald (w := w3) (l := [(⟨kb, ko + k, none⟩, .string XK), (⟨nb, no + k, none⟩, .string XN)]) hs _)
                clear hK K
                try simp only [Act.put, List.setIfInBounds_toArray, List.set_cons_zero, List.set_cons_succ]
                refine heldY 22 58 ?_ _ rfl rfl (by kernel_rfl) (by kernel_rfl) (by kernel_rfl) (fun _ _ _ h => h) rfl (by assumption) ?_ ?_
                rotate_left
                · (intro w hSw; (try dsimp only at hSw); go_simp; (try with_reducible rfl))
                try simp only [List.setIfInBounds_toArray, List.set_cons_zero, List.set_cons_succ]
                refine heldY 23 59 ?_ _ rfl rfl (by kernel_rfl) (by kernel_rfl) (by kernel_rfl) (fun _ _ _ h => h) rfl (by assumption) ?_ ?_
                rotate_left
                · (intro w hSw; (try dsimp only at hSw); go_simp; (try with_reducible rfl))
                try simp only [List.setIfInBounds_toArray, List.set_cons_zero, List.set_cons_succ]
                refine heldY 24 60 ?_ _ rfl rfl (by kernel_rfl) (by kernel_rfl) (by kernel_rfl) (fun _ _ _ h => h) rfl (by assumption) ?_ ?_
                rotate_left
                · (intro w hSw; (try dsimp only at hSw); go_simp; (try with_reducible rfl))
                try simp only [List.setIfInBounds_toArray, List.set_cons_zero, List.set_cons_succ]
                refine heldY 25 61 ?_ _ rfl rfl (by kernel_rfl) (by kernel_rfl) (by kernel_rfl) (fun _ _ _ h => h) rfl (by assumption) ?_ ?_
                rotate_left
                · (intro w hSw; (try dsimp only at hSw); go_simp; (try with_reducible rfl))
                try simp only [List.setIfInBounds_toArray, List.set_cons_zero, List.set_cons_succ]
                refine heldY 26 62 ?_ _ rfl rfl (by kernel_rfl) (by kernel_rfl) (by kernel_rfl) (fun _ _ _ h => h) rfl (by assumption) ?_ ?_
                rotate_left
                · (intro w hSw; (try dsimp only at hSw); go_simp; (try with_reducible rfl))
                try simp only [List.setIfInBounds_toArray, List.set_cons_zero, List.set_cons_succ]
                refine heldY 27 63 ?_ _ rfl rfl (by kernel_rfl) (by kernel_rfl) (by kernel_rfl) (fun _ _ _ h => h) rfl (by assumption) ?_ ?_
                rotate_left
                · (intro w hSw; (try dsimp only at hSw); go_simp; (try with_reducible rfl))
                try simp only [List.setIfInBounds_toArray, List.set_cons_zero, List.set_cons_succ]
                refine heldY 28 64 ?_ _ rfl rfl (by kernel_rfl) (by kernel_rfl) (by kernel_rfl) (fun _ _ _ h => h) rfl (by assumption) ?_ ?_
                rotate_left
                · (intro w hSw; (try dsimp only at hSw); go_simp; (try with_reducible rfl))
                try simp only [List.setIfInBounds_toArray, List.set_cons_zero, List.set_cons_succ]
                refine heldY 29 65 ?_ _ rfl rfl (by kernel_rfl) (by kernel_rfl) (by kernel_rfl) (fun _ _ _ h => h) rfl (by assumption) ?_ ?_
                rotate_left
                · (intro w hSw; (try dsimp only at hSw); go_simp; (try with_reducible rfl))
                try simp only [List.setIfInBounds_toArray, List.set_cons_zero, List.set_cons_succ]
                refine heldY 30 66 ?_ _ rfl rfl (by kernel_rfl) (by kernel_rfl) (by kernel_rfl) (fun _ _ _ h => h) rfl (by assumption) ?_ ?_
                rotate_left
                · (intro w hSw; (try dsimp only at hSw); go_simp; (try with_reducible rfl))
                try simp only [List.setIfInBounds_toArray, List.set_cons_zero, List.set_cons_succ]
                refine heldY 31 67 ?_ _ rfl rfl (by kernel_rfl) (by kernel_rfl) (by kernel_rfl) (fun _ _ _ h => h) rfl (by assumption) ?_ ?_
                rotate_left
                · (intro w hSw; (try dsimp only at hSw); go_simp; (try with_reducible rfl))
                try simp only [List.setIfInBounds_toArray, List.set_cons_zero, List.set_cons_succ]
                refine wpAnyH_ready (rs := [32]) (by kernel_rfl) (by simp) ?_
                refine AllReadyH.cons rfl (fun K hK => ?_) AllReadyH.nil
                go_simp
                first | (go_at_call 71; (with_reducible refine (PL _).mono ?_); rintro e w4 ⟨rfl, hb⟩) | (go_at_call 72; first | ((with_reducible refine (HA _ (BE _ (by assumption))).mono ?_); rintro e w4 ⟨rfl, rfl⟩) | ((with_reducible refine (HN _ (BE _ (by assumption))).mono ?_); rintro e w4 ⟨rfl, rfl⟩)) | (go_at_call 73; (with_reducible refine (NM _).mono ?_); rintro e w4 ⟨rfl, rfl⟩)
                refine hK.out _ _ ?_ (fun hHeld => ?_)
                · (try dsimp only); (first | assumption | exact hs | exact AtF.dr (w := w3) (l := [(⟨kb, ko + k, none⟩, .string XK), (⟨nb, no + k, none⟩, .string XN)]) hs | exact AtF.dr (w := w3) (l := [(⟨kb, ko + k, none⟩, .string XK), (⟨nb, no + k, none⟩, .string XN)]) (by assumption) | exact AtF.on (w := w3) (l := [(⟨kb, ko + k, none⟩, .string XK), (⟨nb, no + k, none⟩, .string XN)]) (by assumption) (by assumption) | exact AtF.al (w := w3) (l := [(⟨kb, ko + k, none⟩, .string XK), (⟨nb, no + k, none⟩, .string XN)]) (by assumption) _ | exact AtF.ald (w := w3) (l := [(⟨kb, ko + k, none⟩, .string XK), (⟨nb, no + k, none⟩, .string XN)]) (by assumption) _ | exact AtF.al (w := w3) (l := [(⟨kb, ko + k, none⟩, .string XK), (⟨nb, no + k, none⟩, .string XN)]) hs _ | exact AtF.ald (w := w3) (l := [(⟨kb, ko + k, none⟩, .string XK), (⟨nb, no + k, none⟩, .string XN)]) hs _)
                clear hK K
                try simp only [Act.put, List.setIfInBounds_toArray, List.set_cons_zero, List.set_cons_succ]
                refine heldY 33 69 ?_ _ rfl rfl (by kernel_rfl) (by kernel_rfl) (by kernel_rfl) (fun _ _ _ h => h) rfl (by assumption) ?_ ?_
                rotate_left
                · (intro w hSw; (try dsimp only at hSw); go_simp; (try with_reducible rfl))
                try simp only [List.setIfInBounds_toArray, List.set_cons_zero, List.set_cons_succ]
                refine heldY 34 70 ?_ _ rfl rfl (by kernel_rfl) (by kernel_rfl) (by kernel_rfl) (fun _ _ _ h => h) rfl (by assumption) ?_ ?_
                rotate_left
                · (intro w hSw; (try dsimp only at hSw); go_simp; (try with_reducible rfl))
                try simp only [List.setIfInBounds_toArray, List.set_cons_zero, List.set_cons_succ]
                refine heldY 35 71 ?_ _ rfl rfl (by kernel_rfl) (by kernel_rfl) (by kernel_rfl) (fun _ _ _ h => h) rfl (by assumption) ?_ ?_
                rotate_left
                · (intro w hSw; (try dsimp only at hSw); go_simp; (try with_reducible rfl))
                try simp only [List.setIfInBounds_toArray, List.set_cons_zero, List.set_cons_succ]
                refine heldY 36 72 ?_ _ rfl rfl (by kernel_rfl) (by kernel_rfl) (by kernel_rfl) (fun _ _ _ h => h) rfl (by assumption) ?_ ?_
                rotate_left
                · (intro w hSw; (try dsimp only at hSw); go_simp; (try with_reducible rfl))
                try simp only [List.setIfInBounds_toArray, List.set_cons_zero, List.set_cons_succ]
                refine heldY 37 73 ?_ _ rfl rfl (by kernel_rfl) (by kernel_rfl) (by kernel_rfl) (fun _ _ _ h => h) rfl (by assumption) ?_ ?_
                rotate_left
                · (intro w hSw; (try dsimp only at hSw); go_simp; (try with_reducible rfl))
                try simp only [List.setIfInBounds_toArray, List.set_cons_zero, List.set_cons_succ]
                refine heldNo 38 74 rfl (by kernel_rfl) (by kernel_rfl) (by kernel_rfl) (fun _ _ _ h => h) rfl (by assumption) ?_
                try simp only [List.setIfInBounds_toArray, List.set_cons_zero, List.set_cons_succ]
                refine heldNo 39 75 rfl (by kernel_rfl) (by kernel_rfl) (by kernel_rfl) (fun _ _ _ h => h) rfl (by assumption) ?_
                try simp only [List.setIfInBounds_toArray, List.set_cons_zero, List.set_cons_succ]
                refine heldNo 40 76 rfl (by kernel_rfl) (by kernel_rfl) (by kernel_rfl) (fun _ _ _ h => h) rfl (by assumption) ?_
                try simp only [List.setIfInBounds_toArray, List.set_cons_zero, List.set_cons_succ]
                refine heldNo 41 77 rfl (by kernel_rfl) (by kernel_rfl) (by kernel_rfl) (fun _ _ _ h => h) rfl (by assumption) ?_
                try simp only [List.setIfInBounds_toArray, List.set_cons_zero, List.set_cons_succ]
                refine heldNo 42 78 rfl (by kernel_rfl) (by kernel_rfl) (by kernel_rfl) (fun _ _ _ h => h) rfl (by assumption) ?_
                try simp only [List.setIfInBounds_toArray, List.set_cons_zero, List.set_cons_succ]
                refine heldNo 43 79 rfl (by kernel_rfl) (by kernel_rfl) (by kernel_rfl) (fun _ _ _ h => h) rfl (by assumption) ?_
                try simp only [List.setIfInBounds_toArray, List.set_cons_zero, List.set_cons_succ]
                refine heldNo 44 80 rfl (by kernel_rfl) (by kernel_rfl) (by kernel_rfl) (fun _ _ _ h => h) rfl (by assumption) ?_
                try simp only [List.setIfInBounds_toArray, List.set_cons_zero, List.set_cons_succ]
                refine heldNo 45 81 rfl (by kernel_rfl) (by kernel_rfl) (by kernel_rfl) (fun _ _ _ h => h) rfl (by assumption) ?_
                try simp only [List.setIfInBounds_toArray, List.set_cons_zero, List.set_cons_succ]
                refine heldNo 46 82 rfl (by kernel_rfl) (by kernel_rfl) (by kernel_rfl) (fun _ _ _ h => h) rfl (by assumption) ?_
                try simp only [List.setIfInBounds_toArray, List.set_cons_zero, List.set_cons_succ]
                refine heldNo 47 83 rfl (by kernel_rfl) (by kernel_rfl) (by kernel_rfl) (fun _ _ _ h => h) rfl (by assumption) ?_
                try simp only [List.setIfInBounds_toArray, List.set_cons_zero, List.set_cons_succ]
                refine heldY 48 84 ?_ _ rfl rfl (by kernel_rfl) (by kernel_rfl) (by kernel_rfl) (fun _ _ _ h => h) rfl (by assumption) ?_ ?_
                rotate_left
                · (intro w hSw; (try dsimp only at hSw); go_simp; (try with_reducible rfl))
                try simp only [List.setIfInBounds_toArray, List.set_cons_zero, List.set_cons_succ]
                refine heldY 49 85 ?_ _ rfl rfl (by kernel_rfl) (by kernel_rfl) (by kernel_rfl) (fun _ _ _ h => h) rfl (by assumption) ?_ ?_
                rotate_left
                · (intro w hSw; (try dsimp only at hSw); go_simp; (try with_reducible rfl))
                try simp only [List.setIfInBounds_toArray, List.set_cons_zero, List.set_cons_succ]
                refine wpAnyH_done (by kernel_rfl) ?_ _
                have HW4 := Lib.hid (BE _ hHeld)
                clear hHeld
                go_wp2
                go_roundw
                case rel => exact ⟨k + 1, by omega, by go_num, HK, HW4⟩
                case measure => simp [intOf]; omega
    · obtain rfl : k = sn + 1 := by omega
      have HL1 : Hid (StepsL x) := Lib.hid (fun i a b ha hb => H.out i a b (by have := (List.getElem?_eq_some_iff.1 ha).1; rw [HLL.out, HSN.out] at this; exact this) ha hb)
      obtain ⟨ca', cc', cb, co, hcv, hcc, hca, hccell⟩ := HoldC.parts HIN.out.2
      rw [HCN.out] at hcc hca
      have hcv2 : Value.slice ca cn cc = .slice ca' cn cc' := by rw [← HCN.out, ← HCVV.out, ← hcv]
      obtain ⟨rfl, rfl⟩ : ca = ca' ∧ cc = cc' := by cases hcv2; exact ⟨rfl, rfl⟩
      have HCC := Lib.hid hccell
      have hlw := World.block_lt_of_cell? _ _ z4
      have HBS := HB
      clear H hlt hk hcv hcv2 hccell HO23 HO3 HKC HNC
      have y4 := (HB.out.cell (p := ⟨w.heap.size, 4, none⟩) hlw).trans z4
      have y5 := (HB.out.cell (p := ⟨w.heap.size, 5, none⟩) hlw).trans z5
      go_wp2
      go_loopw [6] (fun i wr => ∃ k : Nat, k ≤ cn ∧ i = .int .i64 k ∧ Hid (∀ (j : Nat) y, j < k → x.ch[j]? = some y → stepK (rightC sn) (fun x => x.1.1) x.ch j y) ∧ Hid (Below w3.heap.size w3 wr)) (fun i _ => cn - (intOf i).toNat)
      case atStart => exact ⟨0, by omega, rfl, Lib.hid (fun j y hj => by omega), HBS⟩
      clear y4 y5 hsz HBS HB
      case round =>
        obtain ⟨k, hk, rfl, H, HB⟩ := hrel
        have hsz := HB.out.size
        have y4 := (HB.out.cell (p := ⟨w.heap.size, 4, none⟩) hlw).trans z4
        have y5 := (HB.out.cell (p := ⟨w.heap.size, 5, none⟩) hlw).trans z5
        by_cases hlt : k < cn
        · obtain ⟨rfl, hcb⟩ := hca (by omega)
          have HBW := HB3.out.trans (HB.out.mono HB3.out.size)
          obtain ⟨y, hy⟩ : ∃ y, x.ch[k]? = some y := ⟨_, List.getElem?_eq_getElem (by rw [HCN.out]; exact hlt)⟩
          have hym := List.mem_of_getElem? hy
          obtain ⟨c0, c1, c2⟩ := HCC.out k y hy
          rw [← HBW.cell (p := ⟨cb, co + k * 3, none⟩) hcb] at c0
          rw [← HBW.cell (p := ⟨cb, co + k * 3 + 1, none⟩) hcb] at c1
          rw [← HBW.cell (p := ⟨cb, co + k * 3 + 2, none⟩) hcb] at c2
          obtain ⟨ta, tc, tb, tO, htv, htc, hta, htcell⟩ := (HIN.out.2.2 y hym)
          obtain ⟨tn, htn⟩ : ∃ n, y.1.2.2.length = n := ⟨_, rfl⟩
          rw [htn] at htv htc hta
          have HTN := Lib.hid htn
          have HTC := Lib.hid htcell
          have ht9 : tn ≤ 90000 := by rw [← htn]; exact (HS.out.cs y hym).2.1
          have PL := fun W => placeZ_ref (⟨y.1.1.toArray⟩ : ByteArray) (by rw [sizeOf, bytesOf]; exact (HS.out.cs y hym).1) W
          rw [bytesOf] at PL
          have HQS := Lib.hid (HS.out.cs y hym).2.2
          have HBAD : Hid (¬ stepK (rightC sn) (fun x => x.1.1) x.ch k y → false = R) := Lib.hid (fun g => HNO.out (fun q => g (by have := (HGD.out.1 q).2.2.2.2.1; rw [HSN.out] at this; exact this k y hy)))
          have HRC : Hid (rightC sn y = (plZ y.1.1 && decide (-2147483648 ≤ y.1.2.1) && decide (y.1.2.1 ≤ 2147483647) && decide (tn = sn) && y.1.2.2.all tgC)) := Lib.hid (by rw [← htn]; rfl)
          have HBADr : Hid (rightC sn y = false → false = R) := Lib.hid (fun g => HBAD.out (fun q => by rw [q.1] at g; cases g))
          have HBADq : Hid (∀ q ∈ y.1.2.2, tgC q = false → false = R) := Lib.hid (fun q hq g => HBADr.out (by
            rw [HRC.out, show y.1.2.2.all tgC = false from by rw [Bool.eq_false_iff]; intro h; rw [List.all_eq_true.1 h q hq] at g; cases g]
            simp))
          have hB3 := (Below.refl wr.heap.size wr).alloc (Nat.le_refl _) (.cells #[.string (⟨y.1.1.toArray⟩ : ByteArray), .int .i64 y.1.2.1, .slice ta tn tc] 32)
          obtain ⟨u0, u1, u2⟩ := boxV3 wr (.string (⟨y.1.1.toArray⟩ : ByteArray)) (.int .i64 y.1.2.1) (.slice ta tn tc) 32
          have u4 := (hB3.cell (p := ⟨w.heap.size, 4, none⟩) (World.block_lt_of_cell? _ _ y4)).trans y4
          have u5 := (hB3.cell (p := ⟨w.heap.size, 5, none⟩) (World.block_lt_of_cell? _ _ y5)).trans y5
          have hs := And.intro u0 (And.intro u1 (And.intro u2 (And.intro u4 (And.intro u5 (HB.out.trans (hB3.mono hsz))))))
          rw [htv] at c2
          clear u0 u1 u2 u4 u5 htv htn htcell HBW
          have HNEXT0 : Hid (stepK (rightC sn) (fun x => x.1.1) x.ch k y → ∀ (j : Nat) u, j < k + 1 → x.ch[j]? = some u → stepK (rightC sn) (fun x => x.1.1) x.ch j u) := Lib.hid (fun g j u hj hu => by
            by_cases e : j = k
            · subst e; rw [hy] at hu; cases hu; exact g
            · exact H.out j u (by omega) hu)
          obtain ⟨C0, hC0⟩ : ∃ q : ByteArray, (⟨y.1.1.toArray⟩ : ByteArray) = q := ⟨_, rfl⟩
          obtain ⟨z, hz⟩ : ∃ z, y.1.2.1 = z := ⟨_, rfl⟩
          obtain ⟨p, hp⟩ : ∃ p, plZ y.1.1 = p := ⟨_, rfl⟩
          have HC0 : Hid (C0.data.toList = y.1.1) := Lib.hid (by rw [← hC0])
          rw [hC0] at c0 hs PL hB3
          rw [hz] at c1 hs HRC hB3
          rw [hp] at PL HRC
          clear hC0 hz hp H
          cases p
          · have HF := Lib.hid (HBADr.out (by rw [HRC.out]; simp))
            clear HBAD HBADr HBADq HNEXT0 HRC hB3
            go_wp2
            generalize wr.alloc (.cells #[.string C0, .int .i64 z, .slice ta tn tc] 32) = W2 at *
            generalize hb0 : wr.heap.size = b0 at *
            obtain ⟨u0, u1, u2, u4, u5, hB⟩ := hs
            have hs := And.intro u0 (And.intro u1 (And.intro u2 (And.intro u4 (And.intro u5 hB))))
            clear hb0
            have BE := fun (V : World) (h : V.cell? ⟨b0, 0, none⟩ = some (.string C0) ∧ V.cell? ⟨b0, 1, none⟩ = some (.int .i64 z) ∧ V.cell? ⟨b0, 2, none⟩ = some (.slice ta tn tc) ∧ V.cell? ⟨w.heap.size, 4, none⟩ = some (.slice sa sn sc) ∧ V.cell? ⟨w.heap.size, 5, none⟩ = some (.slice (some ⟨cb, co, none⟩) cn cc) ∧ Below w3.heap.size w3 V) => AtF.be (w := w3) (l := [(⟨b0, 0, none⟩, .string C0), (⟨b0, 1, none⟩, .int .i64 z), (⟨b0, 2, none⟩, .slice ta tn tc), (⟨w.heap.size, 4, none⟩, .slice sa sn sc), (⟨w.heap.size, 5, none⟩, .slice (some ⟨cb, co, none⟩) cn cc)]) h
            refine wp_region_held_drew (S := (fun V => V.cell? ⟨b0, 0, none⟩ = some (.string C0) ∧ V.cell? ⟨b0, 1, none⟩ = some (.int .i64 z) ∧ V.cell? ⟨b0, 2, none⟩ = some (.slice ta tn tc) ∧ V.cell? ⟨w.heap.size, 4, none⟩ = some (.slice sa sn sc) ∧ V.cell? ⟨w.heap.size, 5, none⟩ = some (.slice (some ⟨cb, co, none⟩) cn cc) ∧ Below w3.heap.size w3 V)) (by kernel_rfl) ?_ (fun hHeld => ?_)
            · (try dsimp only); (first | assumption | exact hs | exact AtF.dr (w := w3) (l := [(⟨b0, 0, none⟩, .string C0), (⟨b0, 1, none⟩, .int .i64 z), (⟨b0, 2, none⟩, .slice ta tn tc), (⟨w.heap.size, 4, none⟩, .slice sa sn sc), (⟨w.heap.size, 5, none⟩, .slice (some ⟨cb, co, none⟩) cn cc)]) hs | exact AtF.dr (w := w3) (l := [(⟨b0, 0, none⟩, .string C0), (⟨b0, 1, none⟩, .int .i64 z), (⟨b0, 2, none⟩, .slice ta tn tc), (⟨w.heap.size, 4, none⟩, .slice sa sn sc), (⟨w.heap.size, 5, none⟩, .slice (some ⟨cb, co, none⟩) cn cc)]) (by assumption) | exact AtF.on (w := w3) (l := [(⟨b0, 0, none⟩, .string C0), (⟨b0, 1, none⟩, .int .i64 z), (⟨b0, 2, none⟩, .slice ta tn tc), (⟨w.heap.size, 4, none⟩, .slice sa sn sc), (⟨w.heap.size, 5, none⟩, .slice (some ⟨cb, co, none⟩) cn cc)]) (by assumption) (by assumption) | exact AtF.al (w := w3) (l := [(⟨b0, 0, none⟩, .string C0), (⟨b0, 1, none⟩, .int .i64 z), (⟨b0, 2, none⟩, .slice ta tn tc), (⟨w.heap.size, 4, none⟩, .slice sa sn sc), (⟨w.heap.size, 5, none⟩, .slice (some ⟨cb, co, none⟩) cn cc)]) (by assumption) _ | exact AtF.ald (w := w3) (l := [(⟨b0, 0, none⟩, .string C0), (⟨b0, 1, none⟩, .int .i64 z), (⟨b0, 2, none⟩, .slice ta tn tc), (⟨w.heap.size, 4, none⟩, .slice sa sn sc), (⟨w.heap.size, 5, none⟩, .slice (some ⟨cb, co, none⟩) cn cc)]) (by assumption) _ | exact AtF.al (w := w3) (l := [(⟨b0, 0, none⟩, .string C0), (⟨b0, 1, none⟩, .int .i64 z), (⟨b0, 2, none⟩, .slice ta tn tc), (⟨w.heap.size, 4, none⟩, .slice sa sn sc), (⟨w.heap.size, 5, none⟩, .slice (some ⟨cb, co, none⟩) cn cc)]) hs _ | exact AtF.ald (w := w3) (l := [(⟨b0, 0, none⟩, .string C0), (⟨b0, 1, none⟩, .int .i64 z), (⟨b0, 2, none⟩, .slice ta tn tc), (⟨w.heap.size, 4, none⟩, .slice sa sn sc), (⟨w.heap.size, 5, none⟩, .slice (some ⟨cb, co, none⟩) cn cc)]) hs _)
            refine heldY 0 98 ?_ _ rfl rfl (by kernel_rfl) (by kernel_rfl) (by kernel_rfl) (fun _ _ _ h => h) rfl (by assumption) ?_ ?_
            rotate_left
            · (intro w hSw; (try dsimp only at hSw); go_simp; (try with_reducible rfl))
            try simp only [List.setIfInBounds_toArray, List.set_cons_zero, List.set_cons_succ]
            refine heldY 1 99 ?_ _ rfl rfl (by kernel_rfl) (by kernel_rfl) (by kernel_rfl) (fun _ _ _ h => h) rfl (by assumption) ?_ ?_
            rotate_left
            · (intro w hSw; (try dsimp only at hSw); go_simp; (try with_reducible rfl))
            try simp only [List.setIfInBounds_toArray, List.set_cons_zero, List.set_cons_succ]
            refine wpAnyH_ready (rs := [2]) (by kernel_rfl) (by simp) ?_
            refine AllReadyH.cons rfl (fun K hK => ?_) AllReadyH.nil
            go_simp
            (go_at_call 71; (with_reducible refine (PL _).mono ?_); rintro e w4 ⟨rfl, hb⟩)
            refine hK.out _ _ ?_ (fun hHeld => ?_)
            · (try dsimp only); (first | assumption | exact hs | exact AtF.dr (w := w3) (l := [(⟨b0, 0, none⟩, .string C0), (⟨b0, 1, none⟩, .int .i64 z), (⟨b0, 2, none⟩, .slice ta tn tc), (⟨w.heap.size, 4, none⟩, .slice sa sn sc), (⟨w.heap.size, 5, none⟩, .slice (some ⟨cb, co, none⟩) cn cc)]) hs | exact AtF.dr (w := w3) (l := [(⟨b0, 0, none⟩, .string C0), (⟨b0, 1, none⟩, .int .i64 z), (⟨b0, 2, none⟩, .slice ta tn tc), (⟨w.heap.size, 4, none⟩, .slice sa sn sc), (⟨w.heap.size, 5, none⟩, .slice (some ⟨cb, co, none⟩) cn cc)]) (by assumption) | exact AtF.on (w := w3) (l := [(⟨b0, 0, none⟩, .string C0), (⟨b0, 1, none⟩, .int .i64 z), (⟨b0, 2, none⟩, .slice ta tn tc), (⟨w.heap.size, 4, none⟩, .slice sa sn sc), (⟨w.heap.size, 5, none⟩, .slice (some ⟨cb, co, none⟩) cn cc)]) (by assumption) (by assumption) | exact AtF.al (w := w3) (l := [(⟨b0, 0, none⟩, .string C0), (⟨b0, 1, none⟩, .int .i64 z), (⟨b0, 2, none⟩, .slice ta tn tc), (⟨w.heap.size, 4, none⟩, .slice sa sn sc), (⟨w.heap.size, 5, none⟩, .slice (some ⟨cb, co, none⟩) cn cc)]) (by assumption) _ | exact AtF.ald (w := w3) (l := [(⟨b0, 0, none⟩, .string C0), (⟨b0, 1, none⟩, .int .i64 z), (⟨b0, 2, none⟩, .slice ta tn tc), (⟨w.heap.size, 4, none⟩, .slice sa sn sc), (⟨w.heap.size, 5, none⟩, .slice (some ⟨cb, co, none⟩) cn cc)]) (by assumption) _ | exact AtF.al (w := w3) (l := [(⟨b0, 0, none⟩, .string C0), (⟨b0, 1, none⟩, .int .i64 z), (⟨b0, 2, none⟩, .slice ta tn tc), (⟨w.heap.size, 4, none⟩, .slice sa sn sc), (⟨w.heap.size, 5, none⟩, .slice (some ⟨cb, co, none⟩) cn cc)]) hs _ | exact AtF.ald (w := w3) (l := [(⟨b0, 0, none⟩, .string C0), (⟨b0, 1, none⟩, .int .i64 z), (⟨b0, 2, none⟩, .slice ta tn tc), (⟨w.heap.size, 4, none⟩, .slice sa sn sc), (⟨w.heap.size, 5, none⟩, .slice (some ⟨cb, co, none⟩) cn cc)]) hs _)
            clear hK K
            try simp only [Act.put, List.setIfInBounds_toArray, List.set_cons_zero, List.set_cons_succ]
            refine heldY 3 101 ?_ _ rfl rfl (by kernel_rfl) (by kernel_rfl) (by kernel_rfl) (fun _ _ _ h => h) rfl (by assumption) ?_ ?_
            rotate_left
            · (intro w hSw; (try dsimp only at hSw); go_simp; (try with_reducible rfl))
            try simp only [List.setIfInBounds_toArray, List.set_cons_zero, List.set_cons_succ]
            refine heldY 4 102 ?_ _ rfl rfl (by kernel_rfl) (by kernel_rfl) (by kernel_rfl) (fun _ _ _ h => h) rfl (by assumption) ?_ ?_
            rotate_left
            · (intro w hSw; (try dsimp only at hSw); go_simp; (try with_reducible rfl))
            try simp only [List.setIfInBounds_toArray, List.set_cons_zero, List.set_cons_succ]
            refine heldNo 5 103 rfl (by kernel_rfl) (by kernel_rfl) (by kernel_rfl) (fun _ _ _ h => h) rfl (by assumption) ?_
            try simp only [List.setIfInBounds_toArray, List.set_cons_zero, List.set_cons_succ]
            refine heldNo 6 104 rfl (by kernel_rfl) (by kernel_rfl) (by kernel_rfl) (fun _ _ _ h => h) rfl (by assumption) ?_
            try simp only [List.setIfInBounds_toArray, List.set_cons_zero, List.set_cons_succ]
            refine heldNo 7 105 rfl (by kernel_rfl) (by kernel_rfl) (by kernel_rfl) (fun _ _ _ h => h) rfl (by assumption) ?_
            try simp only [List.setIfInBounds_toArray, List.set_cons_zero, List.set_cons_succ]
            refine heldY 8 106 ?_ _ rfl rfl (by kernel_rfl) (by kernel_rfl) (by kernel_rfl) (fun _ _ _ h => h) rfl (by assumption) ?_ ?_
            rotate_left
            · (intro w hSw; (try dsimp only at hSw); go_simp; (try with_reducible rfl))
            try simp only [List.setIfInBounds_toArray, List.set_cons_zero, List.set_cons_succ]
            refine heldY 9 107 ?_ _ rfl rfl (by kernel_rfl) (by kernel_rfl) (by kernel_rfl) (fun _ _ _ h => h) rfl (by assumption) ?_ ?_
            rotate_left
            · (intro w hSw; (try dsimp only at hSw); go_simp; (try with_reducible rfl))
            try simp only [List.setIfInBounds_toArray, List.set_cons_zero, List.set_cons_succ]
            refine heldNo 10 108 rfl (by kernel_rfl) (by kernel_rfl) (by kernel_rfl) (fun _ _ _ h => h) rfl (by assumption) ?_
            try simp only [List.setIfInBounds_toArray, List.set_cons_zero, List.set_cons_succ]
            refine heldNo 11 109 rfl (by kernel_rfl) (by kernel_rfl) (by kernel_rfl) (fun _ _ _ h => h) rfl (by assumption) ?_
            try simp only [List.setIfInBounds_toArray, List.set_cons_zero, List.set_cons_succ]
            refine heldNo 12 110 rfl (by kernel_rfl) (by kernel_rfl) (by kernel_rfl) (fun _ _ _ h => h) rfl (by assumption) ?_
            try simp only [List.setIfInBounds_toArray, List.set_cons_zero, List.set_cons_succ]
            refine heldY 13 111 ?_ _ rfl rfl (by kernel_rfl) (by kernel_rfl) (by kernel_rfl) (fun _ _ _ h => h) rfl (by assumption) ?_ ?_
            rotate_left
            · (intro w hSw; (try dsimp only at hSw); go_simp; (try with_reducible rfl))
            try simp only [List.setIfInBounds_toArray, List.set_cons_zero, List.set_cons_succ]
            refine heldY 14 112 ?_ _ rfl rfl (by kernel_rfl) (by kernel_rfl) (by kernel_rfl) (fun _ _ _ h => h) rfl (by assumption) ?_ ?_
            rotate_left
            · (intro w hSw; (try dsimp only at hSw); go_simp; (try with_reducible rfl))
            try simp only [List.setIfInBounds_toArray, List.set_cons_zero, List.set_cons_succ]
            refine heldNo 15 113 rfl (by kernel_rfl) (by kernel_rfl) (by kernel_rfl) (fun _ _ _ h => h) rfl (by assumption) ?_
            try simp only [List.setIfInBounds_toArray, List.set_cons_zero, List.set_cons_succ]
            refine heldNo 16 114 rfl (by kernel_rfl) (by kernel_rfl) (by kernel_rfl) (fun _ _ _ h => h) rfl (by assumption) ?_
            try simp only [List.setIfInBounds_toArray, List.set_cons_zero, List.set_cons_succ]
            refine heldNo 17 115 rfl (by kernel_rfl) (by kernel_rfl) (by kernel_rfl) (fun _ _ _ h => h) rfl (by assumption) ?_
            try simp only [List.setIfInBounds_toArray, List.set_cons_zero, List.set_cons_succ]
            refine heldNo 18 116 rfl (by kernel_rfl) (by kernel_rfl) (by kernel_rfl) (fun _ _ _ h => h) rfl (by assumption) ?_
            try simp only [List.setIfInBounds_toArray, List.set_cons_zero, List.set_cons_succ]
            refine heldNo 19 117 rfl (by kernel_rfl) (by kernel_rfl) (by kernel_rfl) (fun _ _ _ h => h) rfl (by assumption) ?_
            try simp only [List.setIfInBounds_toArray, List.set_cons_zero, List.set_cons_succ]
            refine heldNo 20 118 rfl (by kernel_rfl) (by kernel_rfl) (by kernel_rfl) (fun _ _ _ h => h) rfl (by assumption) ?_
            try simp only [List.setIfInBounds_toArray, List.set_cons_zero, List.set_cons_succ]
            refine heldNo 21 119 rfl (by kernel_rfl) (by kernel_rfl) (by kernel_rfl) (fun _ _ _ h => h) rfl (by assumption) ?_
            try simp only [List.setIfInBounds_toArray, List.set_cons_zero, List.set_cons_succ]
            refine heldY 22 120 ?_ _ rfl rfl (by kernel_rfl) (by kernel_rfl) (by kernel_rfl) (fun _ _ _ h => h) rfl (by assumption) ?_ ?_
            rotate_left
            · (intro w hSw; (try dsimp only at hSw); go_simp; (try with_reducible rfl))
            try simp only [List.setIfInBounds_toArray, List.set_cons_zero, List.set_cons_succ]
            refine heldY 23 121 ?_ _ rfl rfl (by kernel_rfl) (by kernel_rfl) (by kernel_rfl) (fun _ _ _ h => h) rfl (by assumption) ?_ ?_
            rotate_left
            · (intro w hSw; (try dsimp only at hSw); go_simp; (try with_reducible rfl))
            try simp only [List.setIfInBounds_toArray, List.set_cons_zero, List.set_cons_succ]
            refine heldNo 24 122 rfl (by kernel_rfl) (by kernel_rfl) (by kernel_rfl) (fun _ _ _ h => h) rfl (by assumption) ?_
            try simp only [List.setIfInBounds_toArray, List.set_cons_zero, List.set_cons_succ]
            refine heldNo 25 123 rfl (by kernel_rfl) (by kernel_rfl) (by kernel_rfl) (fun _ _ _ h => h) rfl (by assumption) ?_
            try simp only [List.setIfInBounds_toArray, List.set_cons_zero, List.set_cons_succ]
            refine heldNo 26 124 rfl (by kernel_rfl) (by kernel_rfl) (by kernel_rfl) (fun _ _ _ h => h) rfl (by assumption) ?_
            try simp only [List.setIfInBounds_toArray, List.set_cons_zero, List.set_cons_succ]
            refine heldNo 27 125 rfl (by kernel_rfl) (by kernel_rfl) (by kernel_rfl) (fun _ _ _ h => h) rfl (by assumption) ?_
            try simp only [List.setIfInBounds_toArray, List.set_cons_zero, List.set_cons_succ]
            refine heldNo 28 126 rfl (by kernel_rfl) (by kernel_rfl) (by kernel_rfl) (fun _ _ _ h => h) rfl (by assumption) ?_
            try simp only [List.setIfInBounds_toArray, List.set_cons_zero, List.set_cons_succ]
            refine heldNo 29 127 rfl (by kernel_rfl) (by kernel_rfl) (by kernel_rfl) (fun _ _ _ h => h) rfl (by assumption) ?_
            try simp only [List.setIfInBounds_toArray, List.set_cons_zero, List.set_cons_succ]
            refine heldNo 30 128 rfl (by kernel_rfl) (by kernel_rfl) (by kernel_rfl) (fun _ _ _ h => h) rfl (by assumption) ?_
            try simp only [List.setIfInBounds_toArray, List.set_cons_zero, List.set_cons_succ]
            refine heldNo 31 129 rfl (by kernel_rfl) (by kernel_rfl) (by kernel_rfl) (fun _ _ _ h => h) rfl (by assumption) ?_
            try simp only [List.setIfInBounds_toArray, List.set_cons_zero, List.set_cons_succ]
            refine heldNo 32 130 rfl (by kernel_rfl) (by kernel_rfl) (by kernel_rfl) (fun _ _ _ h => h) rfl (by assumption) ?_
            try simp only [List.setIfInBounds_toArray, List.set_cons_zero, List.set_cons_succ]
            refine heldNo 33 131 rfl (by kernel_rfl) (by kernel_rfl) (by kernel_rfl) (fun _ _ _ h => h) rfl (by assumption) ?_
            try simp only [List.setIfInBounds_toArray, List.set_cons_zero, List.set_cons_succ]
            refine heldNo 34 132 rfl (by kernel_rfl) (by kernel_rfl) (by kernel_rfl) (fun _ _ _ h => h) rfl (by assumption) ?_
            try simp only [List.setIfInBounds_toArray, List.set_cons_zero, List.set_cons_succ]
            refine heldNo 35 133 rfl (by kernel_rfl) (by kernel_rfl) (by kernel_rfl) (fun _ _ _ h => h) rfl (by assumption) ?_
            try simp only [List.setIfInBounds_toArray, List.set_cons_zero, List.set_cons_succ]
            refine heldNo 36 134 rfl (by kernel_rfl) (by kernel_rfl) (by kernel_rfl) (fun _ _ _ h => h) rfl (by assumption) ?_
            try simp only [List.setIfInBounds_toArray, List.set_cons_zero, List.set_cons_succ]
            refine heldNo 37 135 rfl (by kernel_rfl) (by kernel_rfl) (by kernel_rfl) (fun _ _ _ h => h) rfl (by assumption) ?_
            try simp only [List.setIfInBounds_toArray, List.set_cons_zero, List.set_cons_succ]
            refine heldY 38 136 ?_ _ rfl rfl (by kernel_rfl) (by kernel_rfl) (by kernel_rfl) (fun _ _ _ h => h) rfl (by assumption) ?_ ?_
            rotate_left
            · (intro w hSw; (try dsimp only at hSw); go_simp; (try with_reducible rfl))
            try simp only [List.setIfInBounds_toArray, List.set_cons_zero, List.set_cons_succ]
            refine wpAnyH_done (by kernel_rfl) ?_ _
            have HW4 := Lib.hid (BE _ hHeld)
            clear hHeld
            go_wp2
            go_ret
            exact ⟨retb HF.out, HB3.out.trans (HW4.out.mono HB3.out.size)⟩
          by_cases g1 : -2147483648 ≤ z
          rotate_left
          · have HF := Lib.hid (HBADr.out (by rw [HRC.out, decide_eq_false g1]; simp))
            have e1 : decide (z < -2147483648) = true := decide_eq_true (by omega)
            clear HBAD HBADr HBADq HNEXT0 HRC hB3
            go_wp2
            generalize wr.alloc (.cells #[.string C0, .int .i64 z, .slice ta tn tc] 32) = W2 at *
            generalize hb0 : wr.heap.size = b0 at *
            obtain ⟨u0, u1, u2, u4, u5, hB⟩ := hs
            have hs := And.intro u0 (And.intro u1 (And.intro u2 (And.intro u4 (And.intro u5 hB))))
            clear hb0
            have BE := fun (V : World) (h : V.cell? ⟨b0, 0, none⟩ = some (.string C0) ∧ V.cell? ⟨b0, 1, none⟩ = some (.int .i64 z) ∧ V.cell? ⟨b0, 2, none⟩ = some (.slice ta tn tc) ∧ V.cell? ⟨w.heap.size, 4, none⟩ = some (.slice sa sn sc) ∧ V.cell? ⟨w.heap.size, 5, none⟩ = some (.slice (some ⟨cb, co, none⟩) cn cc) ∧ Below w3.heap.size w3 V) => AtF.be (w := w3) (l := [(⟨b0, 0, none⟩, .string C0), (⟨b0, 1, none⟩, .int .i64 z), (⟨b0, 2, none⟩, .slice ta tn tc), (⟨w.heap.size, 4, none⟩, .slice sa sn sc), (⟨w.heap.size, 5, none⟩, .slice (some ⟨cb, co, none⟩) cn cc)]) h
            refine wp_region_held_drew (S := (fun V => V.cell? ⟨b0, 0, none⟩ = some (.string C0) ∧ V.cell? ⟨b0, 1, none⟩ = some (.int .i64 z) ∧ V.cell? ⟨b0, 2, none⟩ = some (.slice ta tn tc) ∧ V.cell? ⟨w.heap.size, 4, none⟩ = some (.slice sa sn sc) ∧ V.cell? ⟨w.heap.size, 5, none⟩ = some (.slice (some ⟨cb, co, none⟩) cn cc) ∧ Below w3.heap.size w3 V)) (by kernel_rfl) ?_ (fun hHeld => ?_)
            · (try dsimp only); (first | assumption | exact hs | exact AtF.dr (w := w3) (l := [(⟨b0, 0, none⟩, .string C0), (⟨b0, 1, none⟩, .int .i64 z), (⟨b0, 2, none⟩, .slice ta tn tc), (⟨w.heap.size, 4, none⟩, .slice sa sn sc), (⟨w.heap.size, 5, none⟩, .slice (some ⟨cb, co, none⟩) cn cc)]) hs | exact AtF.dr (w := w3) (l := [(⟨b0, 0, none⟩, .string C0), (⟨b0, 1, none⟩, .int .i64 z), (⟨b0, 2, none⟩, .slice ta tn tc), (⟨w.heap.size, 4, none⟩, .slice sa sn sc), (⟨w.heap.size, 5, none⟩, .slice (some ⟨cb, co, none⟩) cn cc)]) (by assumption) | exact AtF.on (w := w3) (l := [(⟨b0, 0, none⟩, .string C0), (⟨b0, 1, none⟩, .int .i64 z), (⟨b0, 2, none⟩, .slice ta tn tc), (⟨w.heap.size, 4, none⟩, .slice sa sn sc), (⟨w.heap.size, 5, none⟩, .slice (some ⟨cb, co, none⟩) cn cc)]) (by assumption) (by assumption) | exact AtF.al (w := w3) (l := [(⟨b0, 0, none⟩, .string C0), (⟨b0, 1, none⟩, .int .i64 z), (⟨b0, 2, none⟩, .slice ta tn tc), (⟨w.heap.size, 4, none⟩, .slice sa sn sc), (⟨w.heap.size, 5, none⟩, .slice (some ⟨cb, co, none⟩) cn cc)]) (by assumption) _ | exact AtF.ald (w := w3) (l := [(⟨b0, 0, none⟩, .string C0), (⟨b0, 1, none⟩, .int .i64 z), (⟨b0, 2, none⟩, .slice ta tn tc), (⟨w.heap.size, 4, none⟩, .slice sa sn sc), (⟨w.heap.size, 5, none⟩, .slice (some ⟨cb, co, none⟩) cn cc)]) (by assumption) _ | exact AtF.al (w := w3) (l := [(⟨b0, 0, none⟩, .string C0), (⟨b0, 1, none⟩, .int .i64 z), (⟨b0, 2, none⟩, .slice ta tn tc), (⟨w.heap.size, 4, none⟩, .slice sa sn sc), (⟨w.heap.size, 5, none⟩, .slice (some ⟨cb, co, none⟩) cn cc)]) hs _ | exact AtF.ald (w := w3) (l := [(⟨b0, 0, none⟩, .string C0), (⟨b0, 1, none⟩, .int .i64 z), (⟨b0, 2, none⟩, .slice ta tn tc), (⟨w.heap.size, 4, none⟩, .slice sa sn sc), (⟨w.heap.size, 5, none⟩, .slice (some ⟨cb, co, none⟩) cn cc)]) hs _)
            refine heldY 0 98 ?_ _ rfl rfl (by kernel_rfl) (by kernel_rfl) (by kernel_rfl) (fun _ _ _ h => h) rfl (by assumption) ?_ ?_
            rotate_left
            · (intro w hSw; (try dsimp only at hSw); go_simp; (try with_reducible rfl))
            try simp only [List.setIfInBounds_toArray, List.set_cons_zero, List.set_cons_succ]
            refine heldY 1 99 ?_ _ rfl rfl (by kernel_rfl) (by kernel_rfl) (by kernel_rfl) (fun _ _ _ h => h) rfl (by assumption) ?_ ?_
            rotate_left
            · (intro w hSw; (try dsimp only at hSw); go_simp; (try with_reducible rfl))
            try simp only [List.setIfInBounds_toArray, List.set_cons_zero, List.set_cons_succ]
            refine wpAnyH_ready (rs := [2]) (by kernel_rfl) (by simp) ?_
            refine AllReadyH.cons rfl (fun K hK => ?_) AllReadyH.nil
            go_simp
            (go_at_call 71; (with_reducible refine (PL _).mono ?_); rintro e w4 ⟨rfl, hb⟩)
            refine hK.out _ _ ?_ (fun hHeld => ?_)
            · (try dsimp only); (first | assumption | exact hs | exact AtF.dr (w := w3) (l := [(⟨b0, 0, none⟩, .string C0), (⟨b0, 1, none⟩, .int .i64 z), (⟨b0, 2, none⟩, .slice ta tn tc), (⟨w.heap.size, 4, none⟩, .slice sa sn sc), (⟨w.heap.size, 5, none⟩, .slice (some ⟨cb, co, none⟩) cn cc)]) hs | exact AtF.dr (w := w3) (l := [(⟨b0, 0, none⟩, .string C0), (⟨b0, 1, none⟩, .int .i64 z), (⟨b0, 2, none⟩, .slice ta tn tc), (⟨w.heap.size, 4, none⟩, .slice sa sn sc), (⟨w.heap.size, 5, none⟩, .slice (some ⟨cb, co, none⟩) cn cc)]) (by assumption) | exact AtF.on (w := w3) (l := [(⟨b0, 0, none⟩, .string C0), (⟨b0, 1, none⟩, .int .i64 z), (⟨b0, 2, none⟩, .slice ta tn tc), (⟨w.heap.size, 4, none⟩, .slice sa sn sc), (⟨w.heap.size, 5, none⟩, .slice (some ⟨cb, co, none⟩) cn cc)]) (by assumption) (by assumption) | exact AtF.al (w := w3) (l := [(⟨b0, 0, none⟩, .string C0), (⟨b0, 1, none⟩, .int .i64 z), (⟨b0, 2, none⟩, .slice ta tn tc), (⟨w.heap.size, 4, none⟩, .slice sa sn sc), (⟨w.heap.size, 5, none⟩, .slice (some ⟨cb, co, none⟩) cn cc)]) (by assumption) _ | exact AtF.ald (w := w3) (l := [(⟨b0, 0, none⟩, .string C0), (⟨b0, 1, none⟩, .int .i64 z), (⟨b0, 2, none⟩, .slice ta tn tc), (⟨w.heap.size, 4, none⟩, .slice sa sn sc), (⟨w.heap.size, 5, none⟩, .slice (some ⟨cb, co, none⟩) cn cc)]) (by assumption) _ | exact AtF.al (w := w3) (l := [(⟨b0, 0, none⟩, .string C0), (⟨b0, 1, none⟩, .int .i64 z), (⟨b0, 2, none⟩, .slice ta tn tc), (⟨w.heap.size, 4, none⟩, .slice sa sn sc), (⟨w.heap.size, 5, none⟩, .slice (some ⟨cb, co, none⟩) cn cc)]) hs _ | exact AtF.ald (w := w3) (l := [(⟨b0, 0, none⟩, .string C0), (⟨b0, 1, none⟩, .int .i64 z), (⟨b0, 2, none⟩, .slice ta tn tc), (⟨w.heap.size, 4, none⟩, .slice sa sn sc), (⟨w.heap.size, 5, none⟩, .slice (some ⟨cb, co, none⟩) cn cc)]) hs _)
            clear hK K
            try simp only [Act.put, List.setIfInBounds_toArray, List.set_cons_zero, List.set_cons_succ]
            refine heldY 3 101 ?_ _ rfl rfl (by kernel_rfl) (by kernel_rfl) (by kernel_rfl) (fun _ _ _ h => h) rfl (by assumption) ?_ ?_
            rotate_left
            · (intro w hSw; (try dsimp only at hSw); go_simp; (try with_reducible rfl))
            try simp only [List.setIfInBounds_toArray, List.set_cons_zero, List.set_cons_succ]
            refine heldY 4 102 ?_ _ rfl rfl (by kernel_rfl) (by kernel_rfl) (by kernel_rfl) (fun _ _ _ h => h) rfl (by assumption) ?_ ?_
            rotate_left
            · (intro w hSw; (try dsimp only at hSw); go_simp; (try with_reducible rfl))
            try simp only [List.setIfInBounds_toArray, List.set_cons_zero, List.set_cons_succ]
            refine heldY 5 103 ?_ _ rfl rfl (by kernel_rfl) (by kernel_rfl) (by kernel_rfl) (fun _ _ _ h => h) rfl (by assumption) ?_ ?_
            rotate_left
            · (intro w hSw; (try dsimp only at hSw); go_simp; (try with_reducible rfl))
            try simp only [List.setIfInBounds_toArray, List.set_cons_zero, List.set_cons_succ]
            refine heldY 6 104 ?_ _ rfl rfl (by kernel_rfl) (by kernel_rfl) (by kernel_rfl) (fun _ _ _ h => h) rfl (by assumption) ?_ ?_
            rotate_left
            · (intro w hSw; (try dsimp only at hSw); go_simp; (try with_reducible rfl))
            try simp only [List.setIfInBounds_toArray, List.set_cons_zero, List.set_cons_succ]
            refine heldY 7 105 ?_ _ rfl rfl (by kernel_rfl) (by kernel_rfl) (by kernel_rfl) (fun _ _ _ h => h) rfl (by assumption) ?_ ?_
            rotate_left
            · (intro w hSw; (try dsimp only at hSw); go_simp; (try with_reducible rfl))
            try simp only [List.setIfInBounds_toArray, List.set_cons_zero, List.set_cons_succ]
            refine heldY 8 106 ?_ _ rfl rfl (by kernel_rfl) (by kernel_rfl) (by kernel_rfl) (fun _ _ _ h => h) rfl (by assumption) ?_ ?_
            rotate_left
            · (intro w hSw; (try dsimp only at hSw); go_simp; (try with_reducible rfl))
            try simp only [List.setIfInBounds_toArray, List.set_cons_zero, List.set_cons_succ]
            refine heldY 9 107 ?_ _ rfl rfl (by kernel_rfl) (by kernel_rfl) (by kernel_rfl) (fun _ _ _ h => h) rfl (by assumption) ?_ ?_
            rotate_left
            · (intro w hSw; (try dsimp only at hSw); go_simp; (try with_reducible rfl))
            try simp only [List.setIfInBounds_toArray, List.set_cons_zero, List.set_cons_succ]
            refine heldNo 10 108 rfl (by kernel_rfl) (by kernel_rfl) (by kernel_rfl) (fun _ _ _ h => h) rfl (by assumption) ?_
            try simp only [List.setIfInBounds_toArray, List.set_cons_zero, List.set_cons_succ]
            refine heldNo 11 109 rfl (by kernel_rfl) (by kernel_rfl) (by kernel_rfl) (fun _ _ _ h => h) rfl (by assumption) ?_
            try simp only [List.setIfInBounds_toArray, List.set_cons_zero, List.set_cons_succ]
            refine heldNo 12 110 rfl (by kernel_rfl) (by kernel_rfl) (by kernel_rfl) (fun _ _ _ h => h) rfl (by assumption) ?_
            try simp only [List.setIfInBounds_toArray, List.set_cons_zero, List.set_cons_succ]
            refine heldY 13 111 ?_ _ rfl rfl (by kernel_rfl) (by kernel_rfl) (by kernel_rfl) (fun _ _ _ h => h) rfl (by assumption) ?_ ?_
            rotate_left
            · (intro w hSw; (try dsimp only at hSw); go_simp; (try with_reducible rfl))
            try simp only [List.setIfInBounds_toArray, List.set_cons_zero, List.set_cons_succ]
            refine heldY 14 112 ?_ _ rfl rfl (by kernel_rfl) (by kernel_rfl) (by kernel_rfl) (fun _ _ _ h => h) rfl (by assumption) ?_ ?_
            rotate_left
            · (intro w hSw; (try dsimp only at hSw); go_simp; (try with_reducible rfl))
            try simp only [List.setIfInBounds_toArray, List.set_cons_zero, List.set_cons_succ]
            refine heldNo 15 113 rfl (by kernel_rfl) (by kernel_rfl) (by kernel_rfl) (fun _ _ _ h => h) rfl (by assumption) ?_
            try simp only [List.setIfInBounds_toArray, List.set_cons_zero, List.set_cons_succ]
            refine heldNo 16 114 rfl (by kernel_rfl) (by kernel_rfl) (by kernel_rfl) (fun _ _ _ h => h) rfl (by assumption) ?_
            try simp only [List.setIfInBounds_toArray, List.set_cons_zero, List.set_cons_succ]
            refine heldNo 17 115 rfl (by kernel_rfl) (by kernel_rfl) (by kernel_rfl) (fun _ _ _ h => h) rfl (by assumption) ?_
            try simp only [List.setIfInBounds_toArray, List.set_cons_zero, List.set_cons_succ]
            refine heldNo 18 116 rfl (by kernel_rfl) (by kernel_rfl) (by kernel_rfl) (fun _ _ _ h => h) rfl (by assumption) ?_
            try simp only [List.setIfInBounds_toArray, List.set_cons_zero, List.set_cons_succ]
            refine heldNo 19 117 rfl (by kernel_rfl) (by kernel_rfl) (by kernel_rfl) (fun _ _ _ h => h) rfl (by assumption) ?_
            try simp only [List.setIfInBounds_toArray, List.set_cons_zero, List.set_cons_succ]
            refine heldNo 20 118 rfl (by kernel_rfl) (by kernel_rfl) (by kernel_rfl) (fun _ _ _ h => h) rfl (by assumption) ?_
            try simp only [List.setIfInBounds_toArray, List.set_cons_zero, List.set_cons_succ]
            refine heldNo 21 119 rfl (by kernel_rfl) (by kernel_rfl) (by kernel_rfl) (fun _ _ _ h => h) rfl (by assumption) ?_
            try simp only [List.setIfInBounds_toArray, List.set_cons_zero, List.set_cons_succ]
            refine heldY 22 120 ?_ _ rfl rfl (by kernel_rfl) (by kernel_rfl) (by kernel_rfl) (fun _ _ _ h => h) rfl (by assumption) ?_ ?_
            rotate_left
            · (intro w hSw; (try dsimp only at hSw); go_simp; (try with_reducible rfl))
            try simp only [List.setIfInBounds_toArray, List.set_cons_zero, List.set_cons_succ]
            refine heldY 23 121 ?_ _ rfl rfl (by kernel_rfl) (by kernel_rfl) (by kernel_rfl) (fun _ _ _ h => h) rfl (by assumption) ?_ ?_
            rotate_left
            · (intro w hSw; (try dsimp only at hSw); go_simp; (try with_reducible rfl))
            try simp only [List.setIfInBounds_toArray, List.set_cons_zero, List.set_cons_succ]
            refine heldNo 24 122 rfl (by kernel_rfl) (by kernel_rfl) (by kernel_rfl) (fun _ _ _ h => h) rfl (by assumption) ?_
            try simp only [List.setIfInBounds_toArray, List.set_cons_zero, List.set_cons_succ]
            refine heldNo 25 123 rfl (by kernel_rfl) (by kernel_rfl) (by kernel_rfl) (fun _ _ _ h => h) rfl (by assumption) ?_
            try simp only [List.setIfInBounds_toArray, List.set_cons_zero, List.set_cons_succ]
            refine heldNo 26 124 rfl (by kernel_rfl) (by kernel_rfl) (by kernel_rfl) (fun _ _ _ h => h) rfl (by assumption) ?_
            try simp only [List.setIfInBounds_toArray, List.set_cons_zero, List.set_cons_succ]
            refine heldNo 27 125 rfl (by kernel_rfl) (by kernel_rfl) (by kernel_rfl) (fun _ _ _ h => h) rfl (by assumption) ?_
            try simp only [List.setIfInBounds_toArray, List.set_cons_zero, List.set_cons_succ]
            refine heldNo 28 126 rfl (by kernel_rfl) (by kernel_rfl) (by kernel_rfl) (fun _ _ _ h => h) rfl (by assumption) ?_
            try simp only [List.setIfInBounds_toArray, List.set_cons_zero, List.set_cons_succ]
            refine heldNo 29 127 rfl (by kernel_rfl) (by kernel_rfl) (by kernel_rfl) (fun _ _ _ h => h) rfl (by assumption) ?_
            try simp only [List.setIfInBounds_toArray, List.set_cons_zero, List.set_cons_succ]
            refine heldNo 30 128 rfl (by kernel_rfl) (by kernel_rfl) (by kernel_rfl) (fun _ _ _ h => h) rfl (by assumption) ?_
            try simp only [List.setIfInBounds_toArray, List.set_cons_zero, List.set_cons_succ]
            refine heldNo 31 129 rfl (by kernel_rfl) (by kernel_rfl) (by kernel_rfl) (fun _ _ _ h => h) rfl (by assumption) ?_
            try simp only [List.setIfInBounds_toArray, List.set_cons_zero, List.set_cons_succ]
            refine heldNo 32 130 rfl (by kernel_rfl) (by kernel_rfl) (by kernel_rfl) (fun _ _ _ h => h) rfl (by assumption) ?_
            try simp only [List.setIfInBounds_toArray, List.set_cons_zero, List.set_cons_succ]
            refine heldNo 33 131 rfl (by kernel_rfl) (by kernel_rfl) (by kernel_rfl) (fun _ _ _ h => h) rfl (by assumption) ?_
            try simp only [List.setIfInBounds_toArray, List.set_cons_zero, List.set_cons_succ]
            refine heldNo 34 132 rfl (by kernel_rfl) (by kernel_rfl) (by kernel_rfl) (fun _ _ _ h => h) rfl (by assumption) ?_
            try simp only [List.setIfInBounds_toArray, List.set_cons_zero, List.set_cons_succ]
            refine heldNo 35 133 rfl (by kernel_rfl) (by kernel_rfl) (by kernel_rfl) (fun _ _ _ h => h) rfl (by assumption) ?_
            try simp only [List.setIfInBounds_toArray, List.set_cons_zero, List.set_cons_succ]
            refine heldNo 36 134 rfl (by kernel_rfl) (by kernel_rfl) (by kernel_rfl) (fun _ _ _ h => h) rfl (by assumption) ?_
            try simp only [List.setIfInBounds_toArray, List.set_cons_zero, List.set_cons_succ]
            refine heldNo 37 135 rfl (by kernel_rfl) (by kernel_rfl) (by kernel_rfl) (fun _ _ _ h => h) rfl (by assumption) ?_
            try simp only [List.setIfInBounds_toArray, List.set_cons_zero, List.set_cons_succ]
            refine heldY 38 136 ?_ _ rfl rfl (by kernel_rfl) (by kernel_rfl) (by kernel_rfl) (fun _ _ _ h => h) rfl (by assumption) ?_ ?_
            rotate_left
            · (intro w hSw; (try dsimp only at hSw); go_simp; (try with_reducible rfl))
            try simp only [List.setIfInBounds_toArray, List.set_cons_zero, List.set_cons_succ]
            refine wpAnyH_done (by kernel_rfl) ?_ _
            have HW4 := Lib.hid (BE _ hHeld)
            clear hHeld
            go_wp2
            go_ret
            exact ⟨retb HF.out, HB3.out.trans (HW4.out.mono HB3.out.size)⟩
          have e1 : decide (z < -2147483648) = false := decide_eq_false (by omega)
          by_cases g2 : z ≤ 2147483647
          rotate_left
          · have HF := Lib.hid (HBADr.out (by rw [HRC.out, decide_eq_false g2]; simp))
            have e2 : decide (z > 2147483647) = true := decide_eq_true (by omega)
            clear HBAD HBADr HBADq HNEXT0 HRC hB3
            go_wp2
            generalize wr.alloc (.cells #[.string C0, .int .i64 z, .slice ta tn tc] 32) = W2 at *
            generalize hb0 : wr.heap.size = b0 at *
            obtain ⟨u0, u1, u2, u4, u5, hB⟩ := hs
            have hs := And.intro u0 (And.intro u1 (And.intro u2 (And.intro u4 (And.intro u5 hB))))
            clear hb0
            have BE := fun (V : World) (h : V.cell? ⟨b0, 0, none⟩ = some (.string C0) ∧ V.cell? ⟨b0, 1, none⟩ = some (.int .i64 z) ∧ V.cell? ⟨b0, 2, none⟩ = some (.slice ta tn tc) ∧ V.cell? ⟨w.heap.size, 4, none⟩ = some (.slice sa sn sc) ∧ V.cell? ⟨w.heap.size, 5, none⟩ = some (.slice (some ⟨cb, co, none⟩) cn cc) ∧ Below w3.heap.size w3 V) => AtF.be (w := w3) (l := [(⟨b0, 0, none⟩, .string C0), (⟨b0, 1, none⟩, .int .i64 z), (⟨b0, 2, none⟩, .slice ta tn tc), (⟨w.heap.size, 4, none⟩, .slice sa sn sc), (⟨w.heap.size, 5, none⟩, .slice (some ⟨cb, co, none⟩) cn cc)]) h
            refine wp_region_held_drew (S := (fun V => V.cell? ⟨b0, 0, none⟩ = some (.string C0) ∧ V.cell? ⟨b0, 1, none⟩ = some (.int .i64 z) ∧ V.cell? ⟨b0, 2, none⟩ = some (.slice ta tn tc) ∧ V.cell? ⟨w.heap.size, 4, none⟩ = some (.slice sa sn sc) ∧ V.cell? ⟨w.heap.size, 5, none⟩ = some (.slice (some ⟨cb, co, none⟩) cn cc) ∧ Below w3.heap.size w3 V)) (by kernel_rfl) ?_ (fun hHeld => ?_)
            · (try dsimp only); (first | assumption | exact hs | exact AtF.dr (w := w3) (l := [(⟨b0, 0, none⟩, .string C0), (⟨b0, 1, none⟩, .int .i64 z), (⟨b0, 2, none⟩, .slice ta tn tc), (⟨w.heap.size, 4, none⟩, .slice sa sn sc), (⟨w.heap.size, 5, none⟩, .slice (some ⟨cb, co, none⟩) cn cc)]) hs | exact AtF.dr (w := w3) (l := [(⟨b0, 0, none⟩, .string C0), (⟨b0, 1, none⟩, .int .i64 z), (⟨b0, 2, none⟩, .slice ta tn tc), (⟨w.heap.size, 4, none⟩, .slice sa sn sc), (⟨w.heap.size, 5, none⟩, .slice (some ⟨cb, co, none⟩) cn cc)]) (by assumption) | exact AtF.on (w := w3) (l := [(⟨b0, 0, none⟩, .string C0), (⟨b0, 1, none⟩, .int .i64 z), (⟨b0, 2, none⟩, .slice ta tn tc), (⟨w.heap.size, 4, none⟩, .slice sa sn sc), (⟨w.heap.size, 5, none⟩, .slice (some ⟨cb, co, none⟩) cn cc)]) (by assumption) (by assumption) | exact AtF.al (w := w3) (l := [(⟨b0, 0, none⟩, .string C0), (⟨b0, 1, none⟩, .int .i64 z), (⟨b0, 2, none⟩, .slice ta tn tc), (⟨w.heap.size, 4, none⟩, .slice sa sn sc), (⟨w.heap.size, 5, none⟩, .slice (some ⟨cb, co, none⟩) cn cc)]) (by assumption) _ | exact AtF.ald (w := w3) (l := [(⟨b0, 0, none⟩, .string C0), (⟨b0, 1, none⟩, .int .i64 z), (⟨b0, 2, none⟩, .slice ta tn tc), (⟨w.heap.size, 4, none⟩, .slice sa sn sc), (⟨w.heap.size, 5, none⟩, .slice (some ⟨cb, co, none⟩) cn cc)]) (by assumption) _ | exact AtF.al (w := w3) (l := [(⟨b0, 0, none⟩, .string C0), (⟨b0, 1, none⟩, .int .i64 z), (⟨b0, 2, none⟩, .slice ta tn tc), (⟨w.heap.size, 4, none⟩, .slice sa sn sc), (⟨w.heap.size, 5, none⟩, .slice (some ⟨cb, co, none⟩) cn cc)]) hs _ | exact AtF.ald (w := w3) (l := [(⟨b0, 0, none⟩, .string C0), (⟨b0, 1, none⟩, .int .i64 z), (⟨b0, 2, none⟩, .slice ta tn tc), (⟨w.heap.size, 4, none⟩, .slice sa sn sc), (⟨w.heap.size, 5, none⟩, .slice (some ⟨cb, co, none⟩) cn cc)]) hs _)
            refine heldY 0 98 ?_ _ rfl rfl (by kernel_rfl) (by kernel_rfl) (by kernel_rfl) (fun _ _ _ h => h) rfl (by assumption) ?_ ?_
            rotate_left
            · (intro w hSw; (try dsimp only at hSw); go_simp; (try with_reducible rfl))
            try simp only [List.setIfInBounds_toArray, List.set_cons_zero, List.set_cons_succ]
            refine heldY 1 99 ?_ _ rfl rfl (by kernel_rfl) (by kernel_rfl) (by kernel_rfl) (fun _ _ _ h => h) rfl (by assumption) ?_ ?_
            rotate_left
            · (intro w hSw; (try dsimp only at hSw); go_simp; (try with_reducible rfl))
            try simp only [List.setIfInBounds_toArray, List.set_cons_zero, List.set_cons_succ]
            refine wpAnyH_ready (rs := [2]) (by kernel_rfl) (by simp) ?_
            refine AllReadyH.cons rfl (fun K hK => ?_) AllReadyH.nil
            go_simp
            (go_at_call 71; (with_reducible refine (PL _).mono ?_); rintro e w4 ⟨rfl, hb⟩)
            refine hK.out _ _ ?_ (fun hHeld => ?_)
            · (try dsimp only); (first | assumption | exact hs | exact AtF.dr (w := w3) (l := [(⟨b0, 0, none⟩, .string C0), (⟨b0, 1, none⟩, .int .i64 z), (⟨b0, 2, none⟩, .slice ta tn tc), (⟨w.heap.size, 4, none⟩, .slice sa sn sc), (⟨w.heap.size, 5, none⟩, .slice (some ⟨cb, co, none⟩) cn cc)]) hs | exact AtF.dr (w := w3) (l := [(⟨b0, 0, none⟩, .string C0), (⟨b0, 1, none⟩, .int .i64 z), (⟨b0, 2, none⟩, .slice ta tn tc), (⟨w.heap.size, 4, none⟩, .slice sa sn sc), (⟨w.heap.size, 5, none⟩, .slice (some ⟨cb, co, none⟩) cn cc)]) (by assumption) | exact AtF.on (w := w3) (l := [(⟨b0, 0, none⟩, .string C0), (⟨b0, 1, none⟩, .int .i64 z), (⟨b0, 2, none⟩, .slice ta tn tc), (⟨w.heap.size, 4, none⟩, .slice sa sn sc), (⟨w.heap.size, 5, none⟩, .slice (some ⟨cb, co, none⟩) cn cc)]) (by assumption) (by assumption) | exact AtF.al (w := w3) (l := [(⟨b0, 0, none⟩, .string C0), (⟨b0, 1, none⟩, .int .i64 z), (⟨b0, 2, none⟩, .slice ta tn tc), (⟨w.heap.size, 4, none⟩, .slice sa sn sc), (⟨w.heap.size, 5, none⟩, .slice (some ⟨cb, co, none⟩) cn cc)]) (by assumption) _ | exact AtF.ald (w := w3) (l := [(⟨b0, 0, none⟩, .string C0), (⟨b0, 1, none⟩, .int .i64 z), (⟨b0, 2, none⟩, .slice ta tn tc), (⟨w.heap.size, 4, none⟩, .slice sa sn sc), (⟨w.heap.size, 5, none⟩, .slice (some ⟨cb, co, none⟩) cn cc)]) (by assumption) _ | exact AtF.al (w := w3) (l := [(⟨b0, 0, none⟩, .string C0), (⟨b0, 1, none⟩, .int .i64 z), (⟨b0, 2, none⟩, .slice ta tn tc), (⟨w.heap.size, 4, none⟩, .slice sa sn sc), (⟨w.heap.size, 5, none⟩, .slice (some ⟨cb, co, none⟩) cn cc)]) hs _ | exact AtF.ald (w := w3) (l := [(⟨b0, 0, none⟩, .string C0), (⟨b0, 1, none⟩, .int .i64 z), (⟨b0, 2, none⟩, .slice ta tn tc), (⟨w.heap.size, 4, none⟩, .slice sa sn sc), (⟨w.heap.size, 5, none⟩, .slice (some ⟨cb, co, none⟩) cn cc)]) hs _)
            clear hK K
            try simp only [Act.put, List.setIfInBounds_toArray, List.set_cons_zero, List.set_cons_succ]
            refine heldY 3 101 ?_ _ rfl rfl (by kernel_rfl) (by kernel_rfl) (by kernel_rfl) (fun _ _ _ h => h) rfl (by assumption) ?_ ?_
            rotate_left
            · (intro w hSw; (try dsimp only at hSw); go_simp; (try with_reducible rfl))
            try simp only [List.setIfInBounds_toArray, List.set_cons_zero, List.set_cons_succ]
            refine heldY 4 102 ?_ _ rfl rfl (by kernel_rfl) (by kernel_rfl) (by kernel_rfl) (fun _ _ _ h => h) rfl (by assumption) ?_ ?_
            rotate_left
            · (intro w hSw; (try dsimp only at hSw); go_simp; (try with_reducible rfl))
            try simp only [List.setIfInBounds_toArray, List.set_cons_zero, List.set_cons_succ]
            refine heldY 5 103 ?_ _ rfl rfl (by kernel_rfl) (by kernel_rfl) (by kernel_rfl) (fun _ _ _ h => h) rfl (by assumption) ?_ ?_
            rotate_left
            · (intro w hSw; (try dsimp only at hSw); go_simp; (try with_reducible rfl))
            try simp only [List.setIfInBounds_toArray, List.set_cons_zero, List.set_cons_succ]
            refine heldY 6 104 ?_ _ rfl rfl (by kernel_rfl) (by kernel_rfl) (by kernel_rfl) (fun _ _ _ h => h) rfl (by assumption) ?_ ?_
            rotate_left
            · (intro w hSw; (try dsimp only at hSw); go_simp; (try with_reducible rfl))
            try simp only [List.setIfInBounds_toArray, List.set_cons_zero, List.set_cons_succ]
            refine heldY 7 105 ?_ _ rfl rfl (by kernel_rfl) (by kernel_rfl) (by kernel_rfl) (fun _ _ _ h => h) rfl (by assumption) ?_ ?_
            rotate_left
            · (intro w hSw; (try dsimp only at hSw); go_simp; (try with_reducible rfl))
            try simp only [List.setIfInBounds_toArray, List.set_cons_zero, List.set_cons_succ]
            refine heldY 8 106 ?_ _ rfl rfl (by kernel_rfl) (by kernel_rfl) (by kernel_rfl) (fun _ _ _ h => h) rfl (by assumption) ?_ ?_
            rotate_left
            · (intro w hSw; (try dsimp only at hSw); go_simp; (try with_reducible rfl))
            try simp only [List.setIfInBounds_toArray, List.set_cons_zero, List.set_cons_succ]
            refine heldY 9 107 ?_ _ rfl rfl (by kernel_rfl) (by kernel_rfl) (by kernel_rfl) (fun _ _ _ h => h) rfl (by assumption) ?_ ?_
            rotate_left
            · (intro w hSw; (try dsimp only at hSw); go_simp; (try with_reducible rfl))
            try simp only [List.setIfInBounds_toArray, List.set_cons_zero, List.set_cons_succ]
            refine heldY 10 108 ?_ _ rfl rfl (by kernel_rfl) (by kernel_rfl) (by kernel_rfl) (fun _ _ _ h => h) rfl (by assumption) ?_ ?_
            rotate_left
            · (intro w hSw; (try dsimp only at hSw); go_simp; (try with_reducible rfl))
            try simp only [List.setIfInBounds_toArray, List.set_cons_zero, List.set_cons_succ]
            refine heldY 11 109 ?_ _ rfl rfl (by kernel_rfl) (by kernel_rfl) (by kernel_rfl) (fun _ _ _ h => h) rfl (by assumption) ?_ ?_
            rotate_left
            · (intro w hSw; (try dsimp only at hSw); go_simp; (try with_reducible rfl))
            try simp only [List.setIfInBounds_toArray, List.set_cons_zero, List.set_cons_succ]
            refine heldY 12 110 ?_ _ rfl rfl (by kernel_rfl) (by kernel_rfl) (by kernel_rfl) (fun _ _ _ h => h) rfl (by assumption) ?_ ?_
            rotate_left
            · (intro w hSw; (try dsimp only at hSw); go_simp; (try with_reducible rfl))
            try simp only [List.setIfInBounds_toArray, List.set_cons_zero, List.set_cons_succ]
            refine heldY 13 111 ?_ _ rfl rfl (by kernel_rfl) (by kernel_rfl) (by kernel_rfl) (fun _ _ _ h => h) rfl (by assumption) ?_ ?_
            rotate_left
            · (intro w hSw; (try dsimp only at hSw); go_simp; (try with_reducible rfl))
            try simp only [List.setIfInBounds_toArray, List.set_cons_zero, List.set_cons_succ]
            refine heldY 14 112 ?_ _ rfl rfl (by kernel_rfl) (by kernel_rfl) (by kernel_rfl) (fun _ _ _ h => h) rfl (by assumption) ?_ ?_
            rotate_left
            · (intro w hSw; (try dsimp only at hSw); go_simp; (try with_reducible rfl))
            try simp only [List.setIfInBounds_toArray, List.set_cons_zero, List.set_cons_succ]
            refine heldNo 15 113 rfl (by kernel_rfl) (by kernel_rfl) (by kernel_rfl) (fun _ _ _ h => h) rfl (by assumption) ?_
            try simp only [List.setIfInBounds_toArray, List.set_cons_zero, List.set_cons_succ]
            refine heldNo 16 114 rfl (by kernel_rfl) (by kernel_rfl) (by kernel_rfl) (fun _ _ _ h => h) rfl (by assumption) ?_
            try simp only [List.setIfInBounds_toArray, List.set_cons_zero, List.set_cons_succ]
            refine heldNo 17 115 rfl (by kernel_rfl) (by kernel_rfl) (by kernel_rfl) (fun _ _ _ h => h) rfl (by assumption) ?_
            try simp only [List.setIfInBounds_toArray, List.set_cons_zero, List.set_cons_succ]
            refine heldNo 18 116 rfl (by kernel_rfl) (by kernel_rfl) (by kernel_rfl) (fun _ _ _ h => h) rfl (by assumption) ?_
            try simp only [List.setIfInBounds_toArray, List.set_cons_zero, List.set_cons_succ]
            refine heldNo 19 117 rfl (by kernel_rfl) (by kernel_rfl) (by kernel_rfl) (fun _ _ _ h => h) rfl (by assumption) ?_
            try simp only [List.setIfInBounds_toArray, List.set_cons_zero, List.set_cons_succ]
            refine heldNo 20 118 rfl (by kernel_rfl) (by kernel_rfl) (by kernel_rfl) (fun _ _ _ h => h) rfl (by assumption) ?_
            try simp only [List.setIfInBounds_toArray, List.set_cons_zero, List.set_cons_succ]
            refine heldNo 21 119 rfl (by kernel_rfl) (by kernel_rfl) (by kernel_rfl) (fun _ _ _ h => h) rfl (by assumption) ?_
            try simp only [List.setIfInBounds_toArray, List.set_cons_zero, List.set_cons_succ]
            refine heldY 22 120 ?_ _ rfl rfl (by kernel_rfl) (by kernel_rfl) (by kernel_rfl) (fun _ _ _ h => h) rfl (by assumption) ?_ ?_
            rotate_left
            · (intro w hSw; (try dsimp only at hSw); go_simp; (try with_reducible rfl))
            try simp only [List.setIfInBounds_toArray, List.set_cons_zero, List.set_cons_succ]
            refine heldY 23 121 ?_ _ rfl rfl (by kernel_rfl) (by kernel_rfl) (by kernel_rfl) (fun _ _ _ h => h) rfl (by assumption) ?_ ?_
            rotate_left
            · (intro w hSw; (try dsimp only at hSw); go_simp; (try with_reducible rfl))
            try simp only [List.setIfInBounds_toArray, List.set_cons_zero, List.set_cons_succ]
            refine heldNo 24 122 rfl (by kernel_rfl) (by kernel_rfl) (by kernel_rfl) (fun _ _ _ h => h) rfl (by assumption) ?_
            try simp only [List.setIfInBounds_toArray, List.set_cons_zero, List.set_cons_succ]
            refine heldNo 25 123 rfl (by kernel_rfl) (by kernel_rfl) (by kernel_rfl) (fun _ _ _ h => h) rfl (by assumption) ?_
            try simp only [List.setIfInBounds_toArray, List.set_cons_zero, List.set_cons_succ]
            refine heldNo 26 124 rfl (by kernel_rfl) (by kernel_rfl) (by kernel_rfl) (fun _ _ _ h => h) rfl (by assumption) ?_
            try simp only [List.setIfInBounds_toArray, List.set_cons_zero, List.set_cons_succ]
            refine heldNo 27 125 rfl (by kernel_rfl) (by kernel_rfl) (by kernel_rfl) (fun _ _ _ h => h) rfl (by assumption) ?_
            try simp only [List.setIfInBounds_toArray, List.set_cons_zero, List.set_cons_succ]
            refine heldNo 28 126 rfl (by kernel_rfl) (by kernel_rfl) (by kernel_rfl) (fun _ _ _ h => h) rfl (by assumption) ?_
            try simp only [List.setIfInBounds_toArray, List.set_cons_zero, List.set_cons_succ]
            refine heldNo 29 127 rfl (by kernel_rfl) (by kernel_rfl) (by kernel_rfl) (fun _ _ _ h => h) rfl (by assumption) ?_
            try simp only [List.setIfInBounds_toArray, List.set_cons_zero, List.set_cons_succ]
            refine heldNo 30 128 rfl (by kernel_rfl) (by kernel_rfl) (by kernel_rfl) (fun _ _ _ h => h) rfl (by assumption) ?_
            try simp only [List.setIfInBounds_toArray, List.set_cons_zero, List.set_cons_succ]
            refine heldNo 31 129 rfl (by kernel_rfl) (by kernel_rfl) (by kernel_rfl) (fun _ _ _ h => h) rfl (by assumption) ?_
            try simp only [List.setIfInBounds_toArray, List.set_cons_zero, List.set_cons_succ]
            refine heldNo 32 130 rfl (by kernel_rfl) (by kernel_rfl) (by kernel_rfl) (fun _ _ _ h => h) rfl (by assumption) ?_
            try simp only [List.setIfInBounds_toArray, List.set_cons_zero, List.set_cons_succ]
            refine heldNo 33 131 rfl (by kernel_rfl) (by kernel_rfl) (by kernel_rfl) (fun _ _ _ h => h) rfl (by assumption) ?_
            try simp only [List.setIfInBounds_toArray, List.set_cons_zero, List.set_cons_succ]
            refine heldNo 34 132 rfl (by kernel_rfl) (by kernel_rfl) (by kernel_rfl) (fun _ _ _ h => h) rfl (by assumption) ?_
            try simp only [List.setIfInBounds_toArray, List.set_cons_zero, List.set_cons_succ]
            refine heldNo 35 133 rfl (by kernel_rfl) (by kernel_rfl) (by kernel_rfl) (fun _ _ _ h => h) rfl (by assumption) ?_
            try simp only [List.setIfInBounds_toArray, List.set_cons_zero, List.set_cons_succ]
            refine heldNo 36 134 rfl (by kernel_rfl) (by kernel_rfl) (by kernel_rfl) (fun _ _ _ h => h) rfl (by assumption) ?_
            try simp only [List.setIfInBounds_toArray, List.set_cons_zero, List.set_cons_succ]
            refine heldNo 37 135 rfl (by kernel_rfl) (by kernel_rfl) (by kernel_rfl) (fun _ _ _ h => h) rfl (by assumption) ?_
            try simp only [List.setIfInBounds_toArray, List.set_cons_zero, List.set_cons_succ]
            refine heldY 38 136 ?_ _ rfl rfl (by kernel_rfl) (by kernel_rfl) (by kernel_rfl) (fun _ _ _ h => h) rfl (by assumption) ?_ ?_
            rotate_left
            · (intro w hSw; (try dsimp only at hSw); go_simp; (try with_reducible rfl))
            try simp only [List.setIfInBounds_toArray, List.set_cons_zero, List.set_cons_succ]
            refine wpAnyH_done (by kernel_rfl) ?_ _
            have HW4 := Lib.hid (BE _ hHeld)
            clear hHeld
            go_wp2
            go_ret
            exact ⟨retb HF.out, HB3.out.trans (HW4.out.mono HB3.out.size)⟩
          have e2 : decide (z > 2147483647) = false := decide_eq_false (by omega)
          by_cases g3 : tn = sn
          rotate_left
          · have HF := Lib.hid (HBADr.out (by rw [HRC.out, decide_eq_false g3]; simp))
            have e3 : ((tn : Int) != (sn : Int)) = true := by simpa using (by omega : ¬ (tn : Int) = sn)
            clear HBAD HBADr HBADq HNEXT0 HRC hB3
            go_wp2
            generalize wr.alloc (.cells #[.string C0, .int .i64 z, .slice ta tn tc] 32) = W2 at *
            generalize hb0 : wr.heap.size = b0 at *
            obtain ⟨u0, u1, u2, u4, u5, hB⟩ := hs
            have hs := And.intro u0 (And.intro u1 (And.intro u2 (And.intro u4 (And.intro u5 hB))))
            clear hb0
            have BE := fun (V : World) (h : V.cell? ⟨b0, 0, none⟩ = some (.string C0) ∧ V.cell? ⟨b0, 1, none⟩ = some (.int .i64 z) ∧ V.cell? ⟨b0, 2, none⟩ = some (.slice ta tn tc) ∧ V.cell? ⟨w.heap.size, 4, none⟩ = some (.slice sa sn sc) ∧ V.cell? ⟨w.heap.size, 5, none⟩ = some (.slice (some ⟨cb, co, none⟩) cn cc) ∧ Below w3.heap.size w3 V) => AtF.be (w := w3) (l := [(⟨b0, 0, none⟩, .string C0), (⟨b0, 1, none⟩, .int .i64 z), (⟨b0, 2, none⟩, .slice ta tn tc), (⟨w.heap.size, 4, none⟩, .slice sa sn sc), (⟨w.heap.size, 5, none⟩, .slice (some ⟨cb, co, none⟩) cn cc)]) h
            refine wp_region_held_drew (S := (fun V => V.cell? ⟨b0, 0, none⟩ = some (.string C0) ∧ V.cell? ⟨b0, 1, none⟩ = some (.int .i64 z) ∧ V.cell? ⟨b0, 2, none⟩ = some (.slice ta tn tc) ∧ V.cell? ⟨w.heap.size, 4, none⟩ = some (.slice sa sn sc) ∧ V.cell? ⟨w.heap.size, 5, none⟩ = some (.slice (some ⟨cb, co, none⟩) cn cc) ∧ Below w3.heap.size w3 V)) (by kernel_rfl) ?_ (fun hHeld => ?_)
            · (try dsimp only); (first | assumption | exact hs | exact AtF.dr (w := w3) (l := [(⟨b0, 0, none⟩, .string C0), (⟨b0, 1, none⟩, .int .i64 z), (⟨b0, 2, none⟩, .slice ta tn tc), (⟨w.heap.size, 4, none⟩, .slice sa sn sc), (⟨w.heap.size, 5, none⟩, .slice (some ⟨cb, co, none⟩) cn cc)]) hs | exact AtF.dr (w := w3) (l := [(⟨b0, 0, none⟩, .string C0), (⟨b0, 1, none⟩, .int .i64 z), (⟨b0, 2, none⟩, .slice ta tn tc), (⟨w.heap.size, 4, none⟩, .slice sa sn sc), (⟨w.heap.size, 5, none⟩, .slice (some ⟨cb, co, none⟩) cn cc)]) (by assumption) | exact AtF.on (w := w3) (l := [(⟨b0, 0, none⟩, .string C0), (⟨b0, 1, none⟩, .int .i64 z), (⟨b0, 2, none⟩, .slice ta tn tc), (⟨w.heap.size, 4, none⟩, .slice sa sn sc), (⟨w.heap.size, 5, none⟩, .slice (some ⟨cb, co, none⟩) cn cc)]) (by assumption) (by assumption) | exact AtF.al (w := w3) (l := [(⟨b0, 0, none⟩, .string C0), (⟨b0, 1, none⟩, .int .i64 z), (⟨b0, 2, none⟩, .slice ta tn tc), (⟨w.heap.size, 4, none⟩, .slice sa sn sc), (⟨w.heap.size, 5, none⟩, .slice (some ⟨cb, co, none⟩) cn cc)]) (by assumption) _ | exact AtF.ald (w := w3) (l := [(⟨b0, 0, none⟩, .string C0), (⟨b0, 1, none⟩, .int .i64 z), (⟨b0, 2, none⟩, .slice ta tn tc), (⟨w.heap.size, 4, none⟩, .slice sa sn sc), (⟨w.heap.size, 5, none⟩, .slice (some ⟨cb, co, none⟩) cn cc)]) (by assumption) _ | exact AtF.al (w := w3) (l := [(⟨b0, 0, none⟩, .string C0), (⟨b0, 1, none⟩, .int .i64 z), (⟨b0, 2, none⟩, .slice ta tn tc), (⟨w.heap.size, 4, none⟩, .slice sa sn sc), (⟨w.heap.size, 5, none⟩, .slice (some ⟨cb, co, none⟩) cn cc)]) hs _ | exact AtF.ald (w := w3) (l := [(⟨b0, 0, none⟩, .string C0), (⟨b0, 1, none⟩, .int .i64 z), (⟨b0, 2, none⟩, .slice ta tn tc), (⟨w.heap.size, 4, none⟩, .slice sa sn sc), (⟨w.heap.size, 5, none⟩, .slice (some ⟨cb, co, none⟩) cn cc)]) hs _)
            refine heldY 0 98 ?_ _ rfl rfl (by kernel_rfl) (by kernel_rfl) (by kernel_rfl) (fun _ _ _ h => h) rfl (by assumption) ?_ ?_
            rotate_left
            · (intro w hSw; (try dsimp only at hSw); go_simp; (try with_reducible rfl))
            try simp only [List.setIfInBounds_toArray, List.set_cons_zero, List.set_cons_succ]
            refine heldY 1 99 ?_ _ rfl rfl (by kernel_rfl) (by kernel_rfl) (by kernel_rfl) (fun _ _ _ h => h) rfl (by assumption) ?_ ?_
            rotate_left
            · (intro w hSw; (try dsimp only at hSw); go_simp; (try with_reducible rfl))
            try simp only [List.setIfInBounds_toArray, List.set_cons_zero, List.set_cons_succ]
            refine wpAnyH_ready (rs := [2]) (by kernel_rfl) (by simp) ?_
            refine AllReadyH.cons rfl (fun K hK => ?_) AllReadyH.nil
            go_simp
            (go_at_call 71; (with_reducible refine (PL _).mono ?_); rintro e w4 ⟨rfl, hb⟩)
            refine hK.out _ _ ?_ (fun hHeld => ?_)
            · (try dsimp only); (first | assumption | exact hs | exact AtF.dr (w := w3) (l := [(⟨b0, 0, none⟩, .string C0), (⟨b0, 1, none⟩, .int .i64 z), (⟨b0, 2, none⟩, .slice ta tn tc), (⟨w.heap.size, 4, none⟩, .slice sa sn sc), (⟨w.heap.size, 5, none⟩, .slice (some ⟨cb, co, none⟩) cn cc)]) hs | exact AtF.dr (w := w3) (l := [(⟨b0, 0, none⟩, .string C0), (⟨b0, 1, none⟩, .int .i64 z), (⟨b0, 2, none⟩, .slice ta tn tc), (⟨w.heap.size, 4, none⟩, .slice sa sn sc), (⟨w.heap.size, 5, none⟩, .slice (some ⟨cb, co, none⟩) cn cc)]) (by assumption) | exact AtF.on (w := w3) (l := [(⟨b0, 0, none⟩, .string C0), (⟨b0, 1, none⟩, .int .i64 z), (⟨b0, 2, none⟩, .slice ta tn tc), (⟨w.heap.size, 4, none⟩, .slice sa sn sc), (⟨w.heap.size, 5, none⟩, .slice (some ⟨cb, co, none⟩) cn cc)]) (by assumption) (by assumption) | exact AtF.al (w := w3) (l := [(⟨b0, 0, none⟩, .string C0), (⟨b0, 1, none⟩, .int .i64 z), (⟨b0, 2, none⟩, .slice ta tn tc), (⟨w.heap.size, 4, none⟩, .slice sa sn sc), (⟨w.heap.size, 5, none⟩, .slice (some ⟨cb, co, none⟩) cn cc)]) (by assumption) _ | exact AtF.ald (w := w3) (l := [(⟨b0, 0, none⟩, .string C0), (⟨b0, 1, none⟩, .int .i64 z), (⟨b0, 2, none⟩, .slice ta tn tc), (⟨w.heap.size, 4, none⟩, .slice sa sn sc), (⟨w.heap.size, 5, none⟩, .slice (some ⟨cb, co, none⟩) cn cc)]) (by assumption) _ | exact AtF.al (w := w3) (l := [(⟨b0, 0, none⟩, .string C0), (⟨b0, 1, none⟩, .int .i64 z), (⟨b0, 2, none⟩, .slice ta tn tc), (⟨w.heap.size, 4, none⟩, .slice sa sn sc), (⟨w.heap.size, 5, none⟩, .slice (some ⟨cb, co, none⟩) cn cc)]) hs _ | exact AtF.ald (w := w3) (l := [(⟨b0, 0, none⟩, .string C0), (⟨b0, 1, none⟩, .int .i64 z), (⟨b0, 2, none⟩, .slice ta tn tc), (⟨w.heap.size, 4, none⟩, .slice sa sn sc), (⟨w.heap.size, 5, none⟩, .slice (some ⟨cb, co, none⟩) cn cc)]) hs _)
            clear hK K
            try simp only [Act.put, List.setIfInBounds_toArray, List.set_cons_zero, List.set_cons_succ]
            refine heldY 3 101 ?_ _ rfl rfl (by kernel_rfl) (by kernel_rfl) (by kernel_rfl) (fun _ _ _ h => h) rfl (by assumption) ?_ ?_
            rotate_left
            · (intro w hSw; (try dsimp only at hSw); go_simp; (try with_reducible rfl))
            try simp only [List.setIfInBounds_toArray, List.set_cons_zero, List.set_cons_succ]
            refine heldY 4 102 ?_ _ rfl rfl (by kernel_rfl) (by kernel_rfl) (by kernel_rfl) (fun _ _ _ h => h) rfl (by assumption) ?_ ?_
            rotate_left
            · (intro w hSw; (try dsimp only at hSw); go_simp; (try with_reducible rfl))
            try simp only [List.setIfInBounds_toArray, List.set_cons_zero, List.set_cons_succ]
            refine heldY 5 103 ?_ _ rfl rfl (by kernel_rfl) (by kernel_rfl) (by kernel_rfl) (fun _ _ _ h => h) rfl (by assumption) ?_ ?_
            rotate_left
            · (intro w hSw; (try dsimp only at hSw); go_simp; (try with_reducible rfl))
            try simp only [List.setIfInBounds_toArray, List.set_cons_zero, List.set_cons_succ]
            refine heldY 6 104 ?_ _ rfl rfl (by kernel_rfl) (by kernel_rfl) (by kernel_rfl) (fun _ _ _ h => h) rfl (by assumption) ?_ ?_
            rotate_left
            · (intro w hSw; (try dsimp only at hSw); go_simp; (try with_reducible rfl))
            try simp only [List.setIfInBounds_toArray, List.set_cons_zero, List.set_cons_succ]
            refine heldY 7 105 ?_ _ rfl rfl (by kernel_rfl) (by kernel_rfl) (by kernel_rfl) (fun _ _ _ h => h) rfl (by assumption) ?_ ?_
            rotate_left
            · (intro w hSw; (try dsimp only at hSw); go_simp; (try with_reducible rfl))
            try simp only [List.setIfInBounds_toArray, List.set_cons_zero, List.set_cons_succ]
            refine heldY 8 106 ?_ _ rfl rfl (by kernel_rfl) (by kernel_rfl) (by kernel_rfl) (fun _ _ _ h => h) rfl (by assumption) ?_ ?_
            rotate_left
            · (intro w hSw; (try dsimp only at hSw); go_simp; (try with_reducible rfl))
            try simp only [List.setIfInBounds_toArray, List.set_cons_zero, List.set_cons_succ]
            refine heldY 9 107 ?_ _ rfl rfl (by kernel_rfl) (by kernel_rfl) (by kernel_rfl) (fun _ _ _ h => h) rfl (by assumption) ?_ ?_
            rotate_left
            · (intro w hSw; (try dsimp only at hSw); go_simp; (try with_reducible rfl))
            try simp only [List.setIfInBounds_toArray, List.set_cons_zero, List.set_cons_succ]
            refine heldY 10 108 ?_ _ rfl rfl (by kernel_rfl) (by kernel_rfl) (by kernel_rfl) (fun _ _ _ h => h) rfl (by assumption) ?_ ?_
            rotate_left
            · (intro w hSw; (try dsimp only at hSw); go_simp; (try with_reducible rfl))
            try simp only [List.setIfInBounds_toArray, List.set_cons_zero, List.set_cons_succ]
            refine heldY 11 109 ?_ _ rfl rfl (by kernel_rfl) (by kernel_rfl) (by kernel_rfl) (fun _ _ _ h => h) rfl (by assumption) ?_ ?_
            rotate_left
            · (intro w hSw; (try dsimp only at hSw); go_simp; (try with_reducible rfl))
            try simp only [List.setIfInBounds_toArray, List.set_cons_zero, List.set_cons_succ]
            refine heldY 12 110 ?_ _ rfl rfl (by kernel_rfl) (by kernel_rfl) (by kernel_rfl) (fun _ _ _ h => h) rfl (by assumption) ?_ ?_
            rotate_left
            · (intro w hSw; (try dsimp only at hSw); go_simp; (try with_reducible rfl))
            try simp only [List.setIfInBounds_toArray, List.set_cons_zero, List.set_cons_succ]
            refine heldY 13 111 ?_ _ rfl rfl (by kernel_rfl) (by kernel_rfl) (by kernel_rfl) (fun _ _ _ h => h) rfl (by assumption) ?_ ?_
            rotate_left
            · (intro w hSw; (try dsimp only at hSw); go_simp; (try with_reducible rfl))
            try simp only [List.setIfInBounds_toArray, List.set_cons_zero, List.set_cons_succ]
            refine heldY 14 112 ?_ _ rfl rfl (by kernel_rfl) (by kernel_rfl) (by kernel_rfl) (fun _ _ _ h => h) rfl (by assumption) ?_ ?_
            rotate_left
            · (intro w hSw; (try dsimp only at hSw); go_simp; (try with_reducible rfl))
            try simp only [List.setIfInBounds_toArray, List.set_cons_zero, List.set_cons_succ]
            refine heldY 15 113 ?_ _ rfl rfl (by kernel_rfl) (by kernel_rfl) (by kernel_rfl) (fun _ _ _ h => h) rfl (by assumption) ?_ ?_
            rotate_left
            · (intro w hSw; (try dsimp only at hSw); go_simp; (try with_reducible rfl))
            try simp only [List.setIfInBounds_toArray, List.set_cons_zero, List.set_cons_succ]
            refine heldY 16 114 ?_ _ rfl rfl (by kernel_rfl) (by kernel_rfl) (by kernel_rfl) (fun _ _ _ h => h) rfl (by assumption) ?_ ?_
            rotate_left
            · (intro w hSw; (try dsimp only at hSw); go_simp; (try with_reducible rfl))
            try simp only [List.setIfInBounds_toArray, List.set_cons_zero, List.set_cons_succ]
            refine heldY 17 115 ?_ _ rfl rfl (by kernel_rfl) (by kernel_rfl) (by kernel_rfl) (fun _ _ _ h => h) rfl (by assumption) ?_ ?_
            rotate_left
            · (intro w hSw; (try dsimp only at hSw); go_simp; (try with_reducible rfl))
            try simp only [List.setIfInBounds_toArray, List.set_cons_zero, List.set_cons_succ]
            refine heldY 18 116 ?_ _ rfl rfl (by kernel_rfl) (by kernel_rfl) (by kernel_rfl) (fun _ _ _ h => h) rfl (by assumption) ?_ ?_
            rotate_left
            · (intro w hSw; (try dsimp only at hSw); go_simp; (try with_reducible rfl))
            try simp only [List.setIfInBounds_toArray, List.set_cons_zero, List.set_cons_succ]
            refine heldY 19 117 ?_ _ rfl rfl (by kernel_rfl) (by kernel_rfl) (by kernel_rfl) (fun _ _ _ h => h) rfl (by assumption) ?_ ?_
            rotate_left
            · (intro w hSw; (try dsimp only at hSw); go_simp; (try with_reducible rfl))
            try simp only [List.setIfInBounds_toArray, List.set_cons_zero, List.set_cons_succ]
            refine heldY 20 118 ?_ _ rfl rfl (by kernel_rfl) (by kernel_rfl) (by kernel_rfl) (fun _ _ _ h => h) rfl (by assumption) ?_ ?_
            rotate_left
            · (intro w hSw; (try dsimp only at hSw); go_simp; (try with_reducible rfl))
            try simp only [List.setIfInBounds_toArray, List.set_cons_zero, List.set_cons_succ]
            refine heldY 21 119 ?_ _ rfl rfl (by kernel_rfl) (by kernel_rfl) (by kernel_rfl) (fun _ _ _ h => h) rfl (by assumption) ?_ ?_
            rotate_left
            · (intro w hSw; (try dsimp only at hSw); go_simp; (try with_reducible rfl))
            try simp only [List.setIfInBounds_toArray, List.set_cons_zero, List.set_cons_succ]
            refine heldY 22 120 ?_ _ rfl rfl (by kernel_rfl) (by kernel_rfl) (by kernel_rfl) (fun _ _ _ h => h) rfl (by assumption) ?_ ?_
            rotate_left
            · (intro w hSw; (try dsimp only at hSw); go_simp; (try with_reducible rfl))
            try simp only [List.setIfInBounds_toArray, List.set_cons_zero, List.set_cons_succ]
            refine heldY 23 121 ?_ _ rfl rfl (by kernel_rfl) (by kernel_rfl) (by kernel_rfl) (fun _ _ _ h => h) rfl (by assumption) ?_ ?_
            rotate_left
            · (intro w hSw; (try dsimp only at hSw); go_simp; (try with_reducible rfl))
            try simp only [List.setIfInBounds_toArray, List.set_cons_zero, List.set_cons_succ]
            refine heldNo 24 122 rfl (by kernel_rfl) (by kernel_rfl) (by kernel_rfl) (fun _ _ _ h => h) rfl (by assumption) ?_
            try simp only [List.setIfInBounds_toArray, List.set_cons_zero, List.set_cons_succ]
            refine heldNo 25 123 rfl (by kernel_rfl) (by kernel_rfl) (by kernel_rfl) (fun _ _ _ h => h) rfl (by assumption) ?_
            try simp only [List.setIfInBounds_toArray, List.set_cons_zero, List.set_cons_succ]
            refine heldNo 26 124 rfl (by kernel_rfl) (by kernel_rfl) (by kernel_rfl) (fun _ _ _ h => h) rfl (by assumption) ?_
            try simp only [List.setIfInBounds_toArray, List.set_cons_zero, List.set_cons_succ]
            refine heldNo 27 125 rfl (by kernel_rfl) (by kernel_rfl) (by kernel_rfl) (fun _ _ _ h => h) rfl (by assumption) ?_
            try simp only [List.setIfInBounds_toArray, List.set_cons_zero, List.set_cons_succ]
            refine heldNo 28 126 rfl (by kernel_rfl) (by kernel_rfl) (by kernel_rfl) (fun _ _ _ h => h) rfl (by assumption) ?_
            try simp only [List.setIfInBounds_toArray, List.set_cons_zero, List.set_cons_succ]
            refine heldNo 29 127 rfl (by kernel_rfl) (by kernel_rfl) (by kernel_rfl) (fun _ _ _ h => h) rfl (by assumption) ?_
            try simp only [List.setIfInBounds_toArray, List.set_cons_zero, List.set_cons_succ]
            refine heldNo 30 128 rfl (by kernel_rfl) (by kernel_rfl) (by kernel_rfl) (fun _ _ _ h => h) rfl (by assumption) ?_
            try simp only [List.setIfInBounds_toArray, List.set_cons_zero, List.set_cons_succ]
            refine heldNo 31 129 rfl (by kernel_rfl) (by kernel_rfl) (by kernel_rfl) (fun _ _ _ h => h) rfl (by assumption) ?_
            try simp only [List.setIfInBounds_toArray, List.set_cons_zero, List.set_cons_succ]
            refine heldNo 32 130 rfl (by kernel_rfl) (by kernel_rfl) (by kernel_rfl) (fun _ _ _ h => h) rfl (by assumption) ?_
            try simp only [List.setIfInBounds_toArray, List.set_cons_zero, List.set_cons_succ]
            refine heldNo 33 131 rfl (by kernel_rfl) (by kernel_rfl) (by kernel_rfl) (fun _ _ _ h => h) rfl (by assumption) ?_
            try simp only [List.setIfInBounds_toArray, List.set_cons_zero, List.set_cons_succ]
            refine heldNo 34 132 rfl (by kernel_rfl) (by kernel_rfl) (by kernel_rfl) (fun _ _ _ h => h) rfl (by assumption) ?_
            try simp only [List.setIfInBounds_toArray, List.set_cons_zero, List.set_cons_succ]
            refine heldNo 35 133 rfl (by kernel_rfl) (by kernel_rfl) (by kernel_rfl) (fun _ _ _ h => h) rfl (by assumption) ?_
            try simp only [List.setIfInBounds_toArray, List.set_cons_zero, List.set_cons_succ]
            refine heldNo 36 134 rfl (by kernel_rfl) (by kernel_rfl) (by kernel_rfl) (fun _ _ _ h => h) rfl (by assumption) ?_
            try simp only [List.setIfInBounds_toArray, List.set_cons_zero, List.set_cons_succ]
            refine heldNo 37 135 rfl (by kernel_rfl) (by kernel_rfl) (by kernel_rfl) (fun _ _ _ h => h) rfl (by assumption) ?_
            try simp only [List.setIfInBounds_toArray, List.set_cons_zero, List.set_cons_succ]
            refine heldY 38 136 ?_ _ rfl rfl (by kernel_rfl) (by kernel_rfl) (by kernel_rfl) (fun _ _ _ h => h) rfl (by assumption) ?_ ?_
            rotate_left
            · (intro w hSw; (try dsimp only at hSw); go_simp; (try with_reducible rfl))
            try simp only [List.setIfInBounds_toArray, List.set_cons_zero, List.set_cons_succ]
            refine wpAnyH_done (by kernel_rfl) ?_ _
            have HW4 := Lib.hid (BE _ hHeld)
            clear hHeld
            go_wp2
            go_ret
            exact ⟨retb HF.out, HB3.out.trans (HW4.out.mono HB3.out.size)⟩
          have e3 : ((tn : Int) != (sn : Int)) = false := by simpa using (by omega : (tn : Int) = sn)
          have HRY : Hid (rightC sn y = y.1.2.2.all tgC) := Lib.hid (by rw [HRC.out, decide_eq_true g1, decide_eq_true g2, decide_eq_true g3]; simp)
          clear HRC HBADr g1 g2 g3
          by_cases hk0 : 0 < k
          · obtain ⟨d, hd⟩ : ∃ d, x.ch[k - 1]? = some d := ⟨_, List.getElem?_eq_getElem (by rw [HCN.out]; omega)⟩
            have d0 := (HCC.out (k - 1) d hd).1
            have hBW := HB3.out.trans ((HB.out.trans (hB3.mono hsz)).mono HB3.out.size)
            have d0 := (hBW.cell (p := ⟨cb, co + (k - 1) * 3, none⟩) hcb).trans d0
            have hls := lessT (⟨d.1.1.toArray⟩ : ByteArray) C0
            rw [bytesOf, HC0.out] at hls
            have HCASE : Hid ((decide (d.1.1 < y.1.1) = true ∧ (y.1.2.2.all tgC = true → ∀ (j : Nat) u, j < k + 1 → x.ch[j]? = some u → stepK (rightC sn) (fun x => x.1.1) x.ch j u)) ∨ (decide (d.1.1 < y.1.1) = false ∧ false = R)) := Lib.hid (by
              by_cases g : d.1.1 < y.1.1
              · exact .inl ⟨decide_eq_true g, fun ha => HNEXT0.out ⟨by rw [HRY.out]; exact ha, fun u _ hu => by rw [hd] at hu; cases hu; exact g⟩⟩
              · exact .inr ⟨decide_eq_false g, HBAD.out (fun q => g (q.2 d hk0 hd))⟩)
            obtain ⟨u0, u1, u2, u4, u5, hs6⟩ := hs
            have hs := And.intro u0 (And.intro u1 (And.intro u2 (And.intro u4 (And.intro u5 (And.intro d0 hs6)))))
            have hdk : decide ((0 : Int) < (k : Int)) = true := decide_eq_true (by omega)
            have hk1 : (1 : Int) ≤ (k : Int) := by omega
            have i0 : (0 : Int) ≤ (k : Int) - 1 := by omega
            have i1 : (k : Int) - 1 < (cn : Int) := by omega
            have i2 : ((k : Int) - 1).toNat = k - 1 := by omega
            have i3 : IntKind.i64.wrap ((k : Int) - 1) = (k : Int) - 1 := IntWalk.i64_in _ (by omega)
            generalize decide (d.1.1 < y.1.1) = q at *
            generalize (⟨d.1.1.toArray⟩ : ByteArray) = D0 at *
            clear HBAD HNEXT0 HRY hB3 hy hym hd u0 u1 u2 u4 u5 hs6 d0 hBW
            go_wp2
            generalize wr.alloc (.cells #[.string C0, .int .i64 z, .slice ta tn tc] 32) = W2 at *
            generalize hb0 : wr.heap.size = b0 at *
            obtain ⟨u0, u1, u2, u4, u5, u6, hB⟩ := hs
            have hs := And.intro u0 (And.intro u1 (And.intro u2 (And.intro u4 (And.intro u5 (And.intro u6 hB)))))
            clear hb0
            have BE := fun (V : World) (h : V.cell? ⟨b0, 0, none⟩ = some (.string C0) ∧ V.cell? ⟨b0, 1, none⟩ = some (.int .i64 z) ∧ V.cell? ⟨b0, 2, none⟩ = some (.slice ta tn tc) ∧ V.cell? ⟨w.heap.size, 4, none⟩ = some (.slice sa sn sc) ∧ V.cell? ⟨w.heap.size, 5, none⟩ = some (.slice (some ⟨cb, co, none⟩) cn cc) ∧ V.cell? ⟨cb, co + (k - 1) * 3, none⟩ = some (.string D0) ∧ Below w3.heap.size w3 V) => AtF.be (w := w3) (l := [(⟨b0, 0, none⟩, .string C0), (⟨b0, 1, none⟩, .int .i64 z), (⟨b0, 2, none⟩, .slice ta tn tc), (⟨w.heap.size, 4, none⟩, .slice sa sn sc), (⟨w.heap.size, 5, none⟩, .slice (some ⟨cb, co, none⟩) cn cc), (⟨cb, co + (k - 1) * 3, none⟩, .string D0)]) h
            refine wp_region_held_drew (S := (fun V => V.cell? ⟨b0, 0, none⟩ = some (.string C0) ∧ V.cell? ⟨b0, 1, none⟩ = some (.int .i64 z) ∧ V.cell? ⟨b0, 2, none⟩ = some (.slice ta tn tc) ∧ V.cell? ⟨w.heap.size, 4, none⟩ = some (.slice sa sn sc) ∧ V.cell? ⟨w.heap.size, 5, none⟩ = some (.slice (some ⟨cb, co, none⟩) cn cc) ∧ V.cell? ⟨cb, co + (k - 1) * 3, none⟩ = some (.string D0) ∧ Below w3.heap.size w3 V)) (by kernel_rfl) ?_ (fun hHeld => ?_)
            · (try dsimp only); (first | assumption | exact hs | exact AtF.dr (w := w3) (l := [(⟨b0, 0, none⟩, .string C0), (⟨b0, 1, none⟩, .int .i64 z), (⟨b0, 2, none⟩, .slice ta tn tc), (⟨w.heap.size, 4, none⟩, .slice sa sn sc), (⟨w.heap.size, 5, none⟩, .slice (some ⟨cb, co, none⟩) cn cc), (⟨cb, co + (k - 1) * 3, none⟩, .string D0)]) hs | exact AtF.dr (w := w3) (l := [(⟨b0, 0, none⟩, .string C0), (⟨b0, 1, none⟩, .int .i64 z), (⟨b0, 2, none⟩, .slice ta tn tc), (⟨w.heap.size, 4, none⟩, .slice sa sn sc), (⟨w.heap.size, 5, none⟩, .slice (some ⟨cb, co, none⟩) cn cc), (⟨cb, co + (k - 1) * 3, none⟩, .string D0)]) (by assumption) | exact AtF.on (w := w3) (l := [(⟨b0, 0, none⟩, .string C0), (⟨b0, 1, none⟩, .int .i64 z), (⟨b0, 2, none⟩, .slice ta tn tc), (⟨w.heap.size, 4, none⟩, .slice sa sn sc), (⟨w.heap.size, 5, none⟩, .slice (some ⟨cb, co, none⟩) cn cc), (⟨cb, co + (k - 1) * 3, none⟩, .string D0)]) (by assumption) (by assumption) | exact AtF.al (w := w3) (l := [(⟨b0, 0, none⟩, .string C0), (⟨b0, 1, none⟩, .int .i64 z), (⟨b0, 2, none⟩, .slice ta tn tc), (⟨w.heap.size, 4, none⟩, .slice sa sn sc), (⟨w.heap.size, 5, none⟩, .slice (some ⟨cb, co, none⟩) cn cc), (⟨cb, co + (k - 1) * 3, none⟩, .string D0)]) (by assumption) _ | exact AtF.ald (w := w3) (l := [(⟨b0, 0, none⟩, .string C0), (⟨b0, 1, none⟩, .int .i64 z), (⟨b0, 2, none⟩, .slice ta tn tc), (⟨w.heap.size, 4, none⟩, .slice sa sn sc), (⟨w.heap.size, 5, none⟩, .slice (some ⟨cb, co, none⟩) cn cc), (⟨cb, co + (k - 1) * 3, none⟩, .string D0)]) (by assumption) _ | exact AtF.al (w := w3) (l := [(⟨b0, 0, none⟩, .string C0), (⟨b0, 1, none⟩, .int .i64 z), (⟨b0, 2, none⟩, .slice ta tn tc), (⟨w.heap.size, 4, none⟩, .slice sa sn sc), (⟨w.heap.size, 5, none⟩, .slice (some ⟨cb, co, none⟩) cn cc), (⟨cb, co + (k - 1) * 3, none⟩, .string D0)]) hs _ | exact AtF.ald (w := w3) (l := [(⟨b0, 0, none⟩, .string C0), (⟨b0, 1, none⟩, .int .i64 z), (⟨b0, 2, none⟩, .slice ta tn tc), (⟨w.heap.size, 4, none⟩, .slice sa sn sc), (⟨w.heap.size, 5, none⟩, .slice (some ⟨cb, co, none⟩) cn cc), (⟨cb, co + (k - 1) * 3, none⟩, .string D0)]) hs _)
            refine heldY 0 98 ?_ _ rfl rfl (by kernel_rfl) (by kernel_rfl) (by kernel_rfl) (fun _ _ _ h => h) rfl (by assumption) ?_ ?_
            rotate_left
            · (intro w hSw; (try dsimp only at hSw); go_simp; (try with_reducible rfl))
            try simp only [List.setIfInBounds_toArray, List.set_cons_zero, List.set_cons_succ]
            refine heldY 1 99 ?_ _ rfl rfl (by kernel_rfl) (by kernel_rfl) (by kernel_rfl) (fun _ _ _ h => h) rfl (by assumption) ?_ ?_
            rotate_left
            · (intro w hSw; (try dsimp only at hSw); go_simp; (try with_reducible rfl))
            try simp only [List.setIfInBounds_toArray, List.set_cons_zero, List.set_cons_succ]
            refine wpAnyH_ready (rs := [2]) (by kernel_rfl) (by simp) ?_
            refine AllReadyH.cons rfl (fun K hK => ?_) AllReadyH.nil
            go_simp
            (go_at_call 71; (with_reducible refine (PL _).mono ?_); rintro e w4 ⟨rfl, hb⟩)
            refine hK.out _ _ ?_ (fun hHeld => ?_)
            · (try dsimp only); (first | assumption | exact hs | exact AtF.dr (w := w3) (l := [(⟨b0, 0, none⟩, .string C0), (⟨b0, 1, none⟩, .int .i64 z), (⟨b0, 2, none⟩, .slice ta tn tc), (⟨w.heap.size, 4, none⟩, .slice sa sn sc), (⟨w.heap.size, 5, none⟩, .slice (some ⟨cb, co, none⟩) cn cc), (⟨cb, co + (k - 1) * 3, none⟩, .string D0)]) hs | exact AtF.dr (w := w3) (l := [(⟨b0, 0, none⟩, .string C0), (⟨b0, 1, none⟩, .int .i64 z), (⟨b0, 2, none⟩, .slice ta tn tc), (⟨w.heap.size, 4, none⟩, .slice sa sn sc), (⟨w.heap.size, 5, none⟩, .slice (some ⟨cb, co, none⟩) cn cc), (⟨cb, co + (k - 1) * 3, none⟩, .string D0)]) (by assumption) | exact AtF.on (w := w3) (l := [(⟨b0, 0, none⟩, .string C0), (⟨b0, 1, none⟩, .int .i64 z), (⟨b0, 2, none⟩, .slice ta tn tc), (⟨w.heap.size, 4, none⟩, .slice sa sn sc), (⟨w.heap.size, 5, none⟩, .slice (some ⟨cb, co, none⟩) cn cc), (⟨cb, co + (k - 1) * 3, none⟩, .string D0)]) (by assumption) (by assumption) | exact AtF.al (w := w3) (l := [(⟨b0, 0, none⟩, .string C0), (⟨b0, 1, none⟩, .int .i64 z), (⟨b0, 2, none⟩, .slice ta tn tc), (⟨w.heap.size, 4, none⟩, .slice sa sn sc), (⟨w.heap.size, 5, none⟩, .slice (some ⟨cb, co, none⟩) cn cc), (⟨cb, co + (k - 1) * 3, none⟩, .string D0)]) (by assumption) _ | exact AtF.ald (w := w3) (l := [(⟨b0, 0, none⟩, .string C0), (⟨b0, 1, none⟩, .int .i64 z), (⟨b0, 2, none⟩, .slice ta tn tc), (⟨w.heap.size, 4, none⟩, .slice sa sn sc), (⟨w.heap.size, 5, none⟩, .slice (some ⟨cb, co, none⟩) cn cc), (⟨cb, co + (k - 1) * 3, none⟩, .string D0)]) (by assumption) _ | exact AtF.al (w := w3) (l := [(⟨b0, 0, none⟩, .string C0), (⟨b0, 1, none⟩, .int .i64 z), (⟨b0, 2, none⟩, .slice ta tn tc), (⟨w.heap.size, 4, none⟩, .slice sa sn sc), (⟨w.heap.size, 5, none⟩, .slice (some ⟨cb, co, none⟩) cn cc), (⟨cb, co + (k - 1) * 3, none⟩, .string D0)]) hs _ | exact AtF.ald (w := w3) (l := [(⟨b0, 0, none⟩, .string C0), (⟨b0, 1, none⟩, .int .i64 z), (⟨b0, 2, none⟩, .slice ta tn tc), (⟨w.heap.size, 4, none⟩, .slice sa sn sc), (⟨w.heap.size, 5, none⟩, .slice (some ⟨cb, co, none⟩) cn cc), (⟨cb, co + (k - 1) * 3, none⟩, .string D0)]) hs _)
            clear hK K
            try simp only [Act.put, List.setIfInBounds_toArray, List.set_cons_zero, List.set_cons_succ]
            refine heldY 3 101 ?_ _ rfl rfl (by kernel_rfl) (by kernel_rfl) (by kernel_rfl) (fun _ _ _ h => h) rfl (by assumption) ?_ ?_
            rotate_left
            · (intro w hSw; (try dsimp only at hSw); go_simp; (try with_reducible rfl))
            try simp only [List.setIfInBounds_toArray, List.set_cons_zero, List.set_cons_succ]
            refine heldY 4 102 ?_ _ rfl rfl (by kernel_rfl) (by kernel_rfl) (by kernel_rfl) (fun _ _ _ h => h) rfl (by assumption) ?_ ?_
            rotate_left
            · (intro w hSw; (try dsimp only at hSw); go_simp; (try with_reducible rfl))
            try simp only [List.setIfInBounds_toArray, List.set_cons_zero, List.set_cons_succ]
            refine heldY 5 103 ?_ _ rfl rfl (by kernel_rfl) (by kernel_rfl) (by kernel_rfl) (fun _ _ _ h => h) rfl (by assumption) ?_ ?_
            rotate_left
            · (intro w hSw; (try dsimp only at hSw); go_simp; (try with_reducible rfl))
            try simp only [List.setIfInBounds_toArray, List.set_cons_zero, List.set_cons_succ]
            refine heldY 6 104 ?_ _ rfl rfl (by kernel_rfl) (by kernel_rfl) (by kernel_rfl) (fun _ _ _ h => h) rfl (by assumption) ?_ ?_
            rotate_left
            · (intro w hSw; (try dsimp only at hSw); go_simp; (try with_reducible rfl))
            try simp only [List.setIfInBounds_toArray, List.set_cons_zero, List.set_cons_succ]
            refine heldY 7 105 ?_ _ rfl rfl (by kernel_rfl) (by kernel_rfl) (by kernel_rfl) (fun _ _ _ h => h) rfl (by assumption) ?_ ?_
            rotate_left
            · (intro w hSw; (try dsimp only at hSw); go_simp; (try with_reducible rfl))
            try simp only [List.setIfInBounds_toArray, List.set_cons_zero, List.set_cons_succ]
            refine heldY 8 106 ?_ _ rfl rfl (by kernel_rfl) (by kernel_rfl) (by kernel_rfl) (fun _ _ _ h => h) rfl (by assumption) ?_ ?_
            rotate_left
            · (intro w hSw; (try dsimp only at hSw); go_simp; (try with_reducible rfl))
            try simp only [List.setIfInBounds_toArray, List.set_cons_zero, List.set_cons_succ]
            refine heldY 9 107 ?_ _ rfl rfl (by kernel_rfl) (by kernel_rfl) (by kernel_rfl) (fun _ _ _ h => h) rfl (by assumption) ?_ ?_
            rotate_left
            · (intro w hSw; (try dsimp only at hSw); go_simp; (try with_reducible rfl))
            try simp only [List.setIfInBounds_toArray, List.set_cons_zero, List.set_cons_succ]
            refine heldY 10 108 ?_ _ rfl rfl (by kernel_rfl) (by kernel_rfl) (by kernel_rfl) (fun _ _ _ h => h) rfl (by assumption) ?_ ?_
            rotate_left
            · (intro w hSw; (try dsimp only at hSw); go_simp; (try with_reducible rfl))
            try simp only [List.setIfInBounds_toArray, List.set_cons_zero, List.set_cons_succ]
            refine heldY 11 109 ?_ _ rfl rfl (by kernel_rfl) (by kernel_rfl) (by kernel_rfl) (fun _ _ _ h => h) rfl (by assumption) ?_ ?_
            rotate_left
            · (intro w hSw; (try dsimp only at hSw); go_simp; (try with_reducible rfl))
            try simp only [List.setIfInBounds_toArray, List.set_cons_zero, List.set_cons_succ]
            refine heldY 12 110 ?_ _ rfl rfl (by kernel_rfl) (by kernel_rfl) (by kernel_rfl) (fun _ _ _ h => h) rfl (by assumption) ?_ ?_
            rotate_left
            · (intro w hSw; (try dsimp only at hSw); go_simp; (try with_reducible rfl))
            try simp only [List.setIfInBounds_toArray, List.set_cons_zero, List.set_cons_succ]
            refine heldY 13 111 ?_ _ rfl rfl (by kernel_rfl) (by kernel_rfl) (by kernel_rfl) (fun _ _ _ h => h) rfl (by assumption) ?_ ?_
            rotate_left
            · (intro w hSw; (try dsimp only at hSw); go_simp; (try with_reducible rfl))
            try simp only [List.setIfInBounds_toArray, List.set_cons_zero, List.set_cons_succ]
            refine heldY 14 112 ?_ _ rfl rfl (by kernel_rfl) (by kernel_rfl) (by kernel_rfl) (fun _ _ _ h => h) rfl (by assumption) ?_ ?_
            rotate_left
            · (intro w hSw; (try dsimp only at hSw); go_simp; (try with_reducible rfl))
            try simp only [List.setIfInBounds_toArray, List.set_cons_zero, List.set_cons_succ]
            refine heldY 15 113 ?_ _ rfl rfl (by kernel_rfl) (by kernel_rfl) (by kernel_rfl) (fun _ _ _ h => h) rfl (by assumption) ?_ ?_
            rotate_left
            · (intro w hSw; (try dsimp only at hSw); go_simp; (try with_reducible rfl))
            try simp only [List.setIfInBounds_toArray, List.set_cons_zero, List.set_cons_succ]
            refine heldY 16 114 ?_ _ rfl rfl (by kernel_rfl) (by kernel_rfl) (by kernel_rfl) (fun _ _ _ h => h) rfl (by assumption) ?_ ?_
            rotate_left
            · (intro w hSw; (try dsimp only at hSw); go_simp; (try with_reducible rfl))
            try simp only [List.setIfInBounds_toArray, List.set_cons_zero, List.set_cons_succ]
            refine heldY 17 115 ?_ _ rfl rfl (by kernel_rfl) (by kernel_rfl) (by kernel_rfl) (fun _ _ _ h => h) rfl (by assumption) ?_ ?_
            rotate_left
            · (intro w hSw; (try dsimp only at hSw); go_simp; (try with_reducible rfl))
            try simp only [List.setIfInBounds_toArray, List.set_cons_zero, List.set_cons_succ]
            refine heldY 18 116 ?_ _ rfl rfl (by kernel_rfl) (by kernel_rfl) (by kernel_rfl) (fun _ _ _ h => h) rfl (by assumption) ?_ ?_
            rotate_left
            · (intro w hSw; (try dsimp only at hSw); go_simp; (try with_reducible rfl))
            try simp only [List.setIfInBounds_toArray, List.set_cons_zero, List.set_cons_succ]
            refine heldY 19 117 ?_ _ rfl rfl (by kernel_rfl) (by kernel_rfl) (by kernel_rfl) (fun _ _ _ h => h) rfl (by assumption) ?_ ?_
            rotate_left
            · (intro w hSw; (try dsimp only at hSw); go_simp; (try with_reducible rfl))
            try simp only [List.setIfInBounds_toArray, List.set_cons_zero, List.set_cons_succ]
            refine heldY 20 118 ?_ _ rfl rfl (by kernel_rfl) (by kernel_rfl) (by kernel_rfl) (fun _ _ _ h => h) rfl (by assumption) ?_ ?_
            rotate_left
            · (intro w hSw; (try dsimp only at hSw); go_simp; (try with_reducible rfl))
            try simp only [List.setIfInBounds_toArray, List.set_cons_zero, List.set_cons_succ]
            refine heldY 21 119 ?_ _ rfl rfl (by kernel_rfl) (by kernel_rfl) (by kernel_rfl) (fun _ _ _ h => h) rfl (by assumption) ?_ ?_
            rotate_left
            · (intro w hSw; (try dsimp only at hSw); go_simp; (try with_reducible rfl))
            try simp only [List.setIfInBounds_toArray, List.set_cons_zero, List.set_cons_succ]
            refine heldY 22 120 ?_ _ rfl rfl (by kernel_rfl) (by kernel_rfl) (by kernel_rfl) (fun _ _ _ h => h) rfl (by assumption) ?_ ?_
            rotate_left
            · (intro w hSw; (try dsimp only at hSw); go_simp; (try with_reducible rfl))
            try simp only [List.setIfInBounds_toArray, List.set_cons_zero, List.set_cons_succ]
            refine heldY 23 121 ?_ _ rfl rfl (by kernel_rfl) (by kernel_rfl) (by kernel_rfl) (fun _ _ _ h => h) rfl (by assumption) ?_ ?_
            rotate_left
            · (intro w hSw; (try dsimp only at hSw); go_simp; (try with_reducible rfl))
            try simp only [List.setIfInBounds_toArray, List.set_cons_zero, List.set_cons_succ]
            refine heldY 24 122 ?_ _ rfl rfl (by kernel_rfl) (by kernel_rfl) (by kernel_rfl) (fun _ _ _ h => h) rfl (by assumption) ?_ ?_
            rotate_left
            · (intro w hSw; (try dsimp only at hSw); go_simp; (try with_reducible rfl))
            try simp only [List.setIfInBounds_toArray, List.set_cons_zero, List.set_cons_succ]
            refine heldY 25 123 ?_ _ rfl rfl (by kernel_rfl) (by kernel_rfl) (by kernel_rfl) (fun _ _ _ h => h) rfl (by assumption) ?_ ?_
            rotate_left
            · (intro w hSw; (try dsimp only at hSw); go_simp; (try with_reducible rfl))
            try simp only [List.setIfInBounds_toArray, List.set_cons_zero, List.set_cons_succ]
            refine heldY 26 124 ?_ _ rfl rfl (by kernel_rfl) (by kernel_rfl) (by kernel_rfl) (fun _ _ _ h => h) rfl (by assumption) ?_ ?_
            rotate_left
            · (intro w hSw; (try dsimp only at hSw); go_simp; (try with_reducible rfl))
            try simp only [List.setIfInBounds_toArray, List.set_cons_zero, List.set_cons_succ]
            refine heldY 27 125 ?_ _ rfl rfl (by kernel_rfl) (by kernel_rfl) (by kernel_rfl) (fun _ _ _ h => h) rfl (by assumption) ?_ ?_
            rotate_left
            · (intro w hSw; (try dsimp only at hSw); go_simp; (try with_reducible rfl))
            try simp only [List.setIfInBounds_toArray, List.set_cons_zero, List.set_cons_succ]
            refine heldY 28 126 ?_ _ rfl rfl (by kernel_rfl) (by kernel_rfl) (by kernel_rfl) (fun _ _ _ h => h) rfl (by assumption) ?_ ?_
            rotate_left
            · (intro w hSw; (try dsimp only at hSw); go_simp; (try with_reducible rfl))
            try simp only [List.setIfInBounds_toArray, List.set_cons_zero, List.set_cons_succ]
            refine heldY 29 127 ?_ _ rfl rfl (by kernel_rfl) (by kernel_rfl) (by kernel_rfl) (fun _ _ _ h => h) rfl (by assumption) ?_ ?_
            rotate_left
            · (intro w hSw; (try dsimp only at hSw); go_simp; (try with_reducible rfl))
            try simp only [List.setIfInBounds_toArray, List.set_cons_zero, List.set_cons_succ]
            refine heldY 30 128 ?_ _ rfl rfl (by kernel_rfl) (by kernel_rfl) (by kernel_rfl) (fun _ _ _ h => h) rfl (by assumption) ?_ ?_
            rotate_left
            · (intro w hSw; (try dsimp only at hSw); go_simp; (try with_reducible rfl))
            try simp only [List.setIfInBounds_toArray, List.set_cons_zero, List.set_cons_succ]
            refine heldY 31 129 ?_ _ rfl rfl (by kernel_rfl) (by kernel_rfl) (by kernel_rfl) (fun _ _ _ h => h) rfl (by assumption) ?_ ?_
            rotate_left
            · (intro w hSw; (try dsimp only at hSw); go_simp; (try with_reducible rfl))
            try simp only [List.setIfInBounds_toArray, List.set_cons_zero, List.set_cons_succ]
            refine heldY 32 130 ?_ _ rfl rfl (by kernel_rfl) (by kernel_rfl) (by kernel_rfl) (fun _ _ _ h => h) rfl (by assumption) ?_ ?_
            rotate_left
            · (intro w hSw; (try dsimp only at hSw); go_simp; (try with_reducible rfl))
            try simp only [List.setIfInBounds_toArray, List.set_cons_zero, List.set_cons_succ]
            refine heldY 33 131 ?_ _ rfl rfl (by kernel_rfl) (by kernel_rfl) (by kernel_rfl) (fun _ _ _ h => h) rfl (by assumption) ?_ ?_
            rotate_left
            · (intro w hSw; (try dsimp only at hSw); go_simp; (try with_reducible rfl))
            try simp only [List.setIfInBounds_toArray, List.set_cons_zero, List.set_cons_succ]
            refine heldY 34 132 ?_ _ rfl rfl (by kernel_rfl) (by kernel_rfl) (by kernel_rfl) (fun _ _ _ h => h) rfl (by assumption) ?_ ?_
            rotate_left
            · (intro w hSw; (try dsimp only at hSw); go_simp; (try with_reducible rfl))
            try simp only [List.setIfInBounds_toArray, List.set_cons_zero, List.set_cons_succ]
            refine heldY 35 133 ?_ _ rfl rfl (by kernel_rfl) (by kernel_rfl) (by kernel_rfl) (fun _ _ _ h => h) rfl (by assumption) ?_ ?_
            rotate_left
            · (intro w hSw; (try dsimp only at hSw); go_simp; (try with_reducible rfl))
            try simp only [List.setIfInBounds_toArray, List.set_cons_zero, List.set_cons_succ]
            refine heldY 36 134 ?_ _ rfl rfl (by kernel_rfl) (by kernel_rfl) (by kernel_rfl) (fun _ _ _ h => h) rfl (by assumption) ?_ ?_
            rotate_left
            · (intro w hSw; (try dsimp only at hSw); go_simp; (try with_reducible rfl))
            try simp only [List.setIfInBounds_toArray, List.set_cons_zero, List.set_cons_succ]
            refine heldY 37 135 ?_ _ rfl rfl (by kernel_rfl) (by kernel_rfl) (by kernel_rfl) (fun _ _ _ h => h) rfl (by assumption) ?_ ?_
            rotate_left
            · (intro w hSw; (try dsimp only at hSw); go_simp; (try with_reducible rfl))
            try simp only [List.setIfInBounds_toArray, List.set_cons_zero, List.set_cons_succ]
            refine heldY 38 136 ?_ _ rfl rfl (by kernel_rfl) (by kernel_rfl) (by kernel_rfl) (fun _ _ _ h => h) rfl (by assumption) ?_ ?_
            rotate_left
            · (intro w hSw; (try dsimp only at hSw); go_simp; (try with_reducible rfl))
            try simp only [List.setIfInBounds_toArray, List.set_cons_zero, List.set_cons_succ]
            refine wpAnyH_done (by kernel_rfl) ?_ _
            have HW4 := Lib.hid (BE _ hHeld)
            clear i2 i3 i0 i1 hk1 hls hdk
            rcases HCASE.out with ⟨hq, HNEXT⟩ | ⟨hq, HF⟩
            · subst hq
              have HNEXT := Lib.hid HNEXT
              clear HCASE
              have HV2 := Lib.hid hHeld.2.2.1
              clear hHeld
              try simp only [Bool.not_true]
              go_wp2
              go_loopw [8] (fun i wi => ∃ j : Nat, j ≤ tn ∧ i = .int .i64 j ∧ Hid (∀ (m : Nat) q, m < j → y.1.2.2[m]? = some q → tgC q = true) ∧ Hid (wi.cell? ⟨b0, 2, none⟩ = some (.slice ta tn tc)) ∧ Hid (Below w3.heap.size w3 wi)) (fun i _ => tn - (intOf i).toNat)
              case atStart => exact ⟨0, by omega, rfl, Lib.hid (fun m q hm => by omega), HV2, HW4⟩
              case round =>
                obtain ⟨j, hj, rfl, HJ, HJ2, HJB⟩ := hrel
                have v2 := HJ2.out
                by_cases hjn : j < tn
                · obtain ⟨rfl, htb⟩ := hta (by omega)
                  obtain ⟨q, hq⟩ : ∃ q, y.1.2.2[j]? = some q := ⟨_, List.getElem?_eq_getElem (by rw [HTN.out]; exact hjn)⟩
                  have t0 := ((HB3.out.trans (HJB.out.mono HB3.out.size)).cell (p := ⟨tb, tO + j, none⟩) htb).trans (HTC.out j q hq)
                  have PQ := fun W => placeZ_ref (⟨q.toArray⟩ : ByteArray) (by rw [sizeOf, bytesOf]; exact HQS.out q (List.mem_of_getElem? hq)) W
                  have he := eqTL (⟨q.toArray⟩ : ByteArray) []
                  rw [bytesOf] at PQ he
                  have HBQ : Hid (tgC q = false → false = R) := Lib.hid (fun g => HBADq.out q (List.mem_of_getElem? hq) g)
                  have HNQ : Hid (tgC q = true → ∀ (m : Nat) p, m < j + 1 → y.1.2.2[m]? = some p → tgC p = true) := Lib.hid (fun g m p hm hp => by
                    by_cases e : m = j
                    · subst e; rw [hq] at hp; cases hp; exact g
                    · exact HJ.out m p (by omega) hp)
                  have i0 : (0 : Int) ≤ (j : Int) := by omega
                  have i1 : (j : Int) < (tn : Int) := by omega
                  have HTG : Hid (tgC q = (decide (q = []) || plZ q)) := Lib.hid rfl
                  generalize tgC q = g at *
                  generalize plZ q = pq at *
                  generalize decide (q = []) = eq0 at *
                  generalize (⟨q.toArray⟩ : ByteArray) = Q at *
                  clear hq HJ
                  cases eq0
                  · cases pq
                    · have HF := Lib.hid (HBQ.out (by rw [HTG.out]; rfl))
                      clear HBQ HNQ HTG
                      go_wp2_with (go_at_call 71; (with_reducible refine (PQ _).mono ?_); rintro e w7 ⟨rfl, hb⟩; have HB7 := Lib.hid (HJB.out.trans (hb.mono HJB.out.size)); clear hb)
                      go_ret
                      exact ⟨retb HF.out, HB3.out.trans (HB7.out.mono HB3.out.size)⟩
                    · have HK := Lib.hid (HNQ.out (by rw [HTG.out]; rfl))
                      clear HBQ HNQ HTG
                      go_wp2_with (go_at_call 71; (with_reducible refine (PQ _).mono ?_); rintro e w7 ⟨rfl, hb⟩; have HB7 := Lib.hid (HJB.out.trans (hb.mono HJB.out.size)); have HV7 := Lib.hid ((hb.cell (p := ⟨b0, 2, none⟩) (World.block_lt_of_cell? _ _ v2)).trans v2); clear hb)
                      go_roundw
                      case rel => exact ⟨j + 1, by omega, by go_num, HK, HV7, HB7⟩
                      case measure => simp [intOf]; omega
                  · have HK := Lib.hid (HNQ.out (by rw [HTG.out]; rfl))
                    clear HBQ HNQ HTG PQ
                    go_wp2
                    go_roundw
                    case rel => exact ⟨j + 1, by omega, by go_num, HK, HJ2, HJB⟩
                    case measure => simp [intOf]; omega
                · obtain rfl : j = tn := by omega
                  have HK := Lib.hid (HNEXT.out (List.all_eq_true.2 (fun q hq => by obtain ⟨m, hm⟩ := List.mem_iff_getElem?.1 hq; exact HJ.out m q (by have := (List.getElem?_eq_some_iff.1 hm).1; rw [HTN.out] at this; exact this) hm)))
                  clear hjn HJ
                  go_wp2
                  go_roundw
                  case rel => exact ⟨k + 1, by omega, by go_num, HK, HJB⟩
                  case measure => simp [intOf]; omega
            · subst hq
              have HF := Lib.hid HF
              clear HCASE hHeld
              go_wp2
              go_ret
              exact ⟨retb HF.out, HB3.out.trans (HW4.out.mono HB3.out.size)⟩
          · have HNEXT : Hid (y.1.2.2.all tgC = true → ∀ (j : Nat) u, j < k + 1 → x.ch[j]? = some u → stepK (rightC sn) (fun x => x.1.1) x.ch j u) := Lib.hid (fun ha => HNEXT0.out ⟨by rw [HRY.out]; exact ha, fun _ g => absurd g hk0⟩)
            have hdk : decide ((0 : Int) < (k : Int)) = false := decide_eq_false (by omega)
            clear HBAD HNEXT0 HRY hB3 hy hym
            go_wp2
            generalize wr.alloc (.cells #[.string C0, .int .i64 z, .slice ta tn tc] 32) = W2 at *
            generalize hb0 : wr.heap.size = b0 at *
            obtain ⟨u0, u1, u2, u4, u5, hB⟩ := hs
            have hs := And.intro u0 (And.intro u1 (And.intro u2 (And.intro u4 (And.intro u5 hB))))
            clear hb0
            have BE := fun (V : World) (h : V.cell? ⟨b0, 0, none⟩ = some (.string C0) ∧ V.cell? ⟨b0, 1, none⟩ = some (.int .i64 z) ∧ V.cell? ⟨b0, 2, none⟩ = some (.slice ta tn tc) ∧ V.cell? ⟨w.heap.size, 4, none⟩ = some (.slice sa sn sc) ∧ V.cell? ⟨w.heap.size, 5, none⟩ = some (.slice (some ⟨cb, co, none⟩) cn cc) ∧ Below w3.heap.size w3 V) => AtF.be (w := w3) (l := [(⟨b0, 0, none⟩, .string C0), (⟨b0, 1, none⟩, .int .i64 z), (⟨b0, 2, none⟩, .slice ta tn tc), (⟨w.heap.size, 4, none⟩, .slice sa sn sc), (⟨w.heap.size, 5, none⟩, .slice (some ⟨cb, co, none⟩) cn cc)]) h
            refine wp_region_held_drew (S := (fun V => V.cell? ⟨b0, 0, none⟩ = some (.string C0) ∧ V.cell? ⟨b0, 1, none⟩ = some (.int .i64 z) ∧ V.cell? ⟨b0, 2, none⟩ = some (.slice ta tn tc) ∧ V.cell? ⟨w.heap.size, 4, none⟩ = some (.slice sa sn sc) ∧ V.cell? ⟨w.heap.size, 5, none⟩ = some (.slice (some ⟨cb, co, none⟩) cn cc) ∧ Below w3.heap.size w3 V)) (by kernel_rfl) ?_ (fun hHeld => ?_)
            · (try dsimp only); (first | assumption | exact hs | exact AtF.dr (w := w3) (l := [(⟨b0, 0, none⟩, .string C0), (⟨b0, 1, none⟩, .int .i64 z), (⟨b0, 2, none⟩, .slice ta tn tc), (⟨w.heap.size, 4, none⟩, .slice sa sn sc), (⟨w.heap.size, 5, none⟩, .slice (some ⟨cb, co, none⟩) cn cc)]) hs | exact AtF.dr (w := w3) (l := [(⟨b0, 0, none⟩, .string C0), (⟨b0, 1, none⟩, .int .i64 z), (⟨b0, 2, none⟩, .slice ta tn tc), (⟨w.heap.size, 4, none⟩, .slice sa sn sc), (⟨w.heap.size, 5, none⟩, .slice (some ⟨cb, co, none⟩) cn cc)]) (by assumption) | exact AtF.on (w := w3) (l := [(⟨b0, 0, none⟩, .string C0), (⟨b0, 1, none⟩, .int .i64 z), (⟨b0, 2, none⟩, .slice ta tn tc), (⟨w.heap.size, 4, none⟩, .slice sa sn sc), (⟨w.heap.size, 5, none⟩, .slice (some ⟨cb, co, none⟩) cn cc)]) (by assumption) (by assumption) | exact AtF.al (w := w3) (l := [(⟨b0, 0, none⟩, .string C0), (⟨b0, 1, none⟩, .int .i64 z), (⟨b0, 2, none⟩, .slice ta tn tc), (⟨w.heap.size, 4, none⟩, .slice sa sn sc), (⟨w.heap.size, 5, none⟩, .slice (some ⟨cb, co, none⟩) cn cc)]) (by assumption) _ | exact AtF.ald (w := w3) (l := [(⟨b0, 0, none⟩, .string C0), (⟨b0, 1, none⟩, .int .i64 z), (⟨b0, 2, none⟩, .slice ta tn tc), (⟨w.heap.size, 4, none⟩, .slice sa sn sc), (⟨w.heap.size, 5, none⟩, .slice (some ⟨cb, co, none⟩) cn cc)]) (by assumption) _ | exact AtF.al (w := w3) (l := [(⟨b0, 0, none⟩, .string C0), (⟨b0, 1, none⟩, .int .i64 z), (⟨b0, 2, none⟩, .slice ta tn tc), (⟨w.heap.size, 4, none⟩, .slice sa sn sc), (⟨w.heap.size, 5, none⟩, .slice (some ⟨cb, co, none⟩) cn cc)]) hs _ | exact AtF.ald (w := w3) (l := [(⟨b0, 0, none⟩, .string C0), (⟨b0, 1, none⟩, .int .i64 z), (⟨b0, 2, none⟩, .slice ta tn tc), (⟨w.heap.size, 4, none⟩, .slice sa sn sc), (⟨w.heap.size, 5, none⟩, .slice (some ⟨cb, co, none⟩) cn cc)]) hs _)
            refine heldY 0 98 ?_ _ rfl rfl (by kernel_rfl) (by kernel_rfl) (by kernel_rfl) (fun _ _ _ h => h) rfl (by assumption) ?_ ?_
            rotate_left
            · (intro w hSw; (try dsimp only at hSw); go_simp; (try with_reducible rfl))
            try simp only [List.setIfInBounds_toArray, List.set_cons_zero, List.set_cons_succ]
            refine heldY 1 99 ?_ _ rfl rfl (by kernel_rfl) (by kernel_rfl) (by kernel_rfl) (fun _ _ _ h => h) rfl (by assumption) ?_ ?_
            rotate_left
            · (intro w hSw; (try dsimp only at hSw); go_simp; (try with_reducible rfl))
            try simp only [List.setIfInBounds_toArray, List.set_cons_zero, List.set_cons_succ]
            refine wpAnyH_ready (rs := [2]) (by kernel_rfl) (by simp) ?_
            refine AllReadyH.cons rfl (fun K hK => ?_) AllReadyH.nil
            go_simp
            (go_at_call 71; (with_reducible refine (PL _).mono ?_); rintro e w4 ⟨rfl, hb⟩)
            refine hK.out _ _ ?_ (fun hHeld => ?_)
            · (try dsimp only); (first | assumption | exact hs | exact AtF.dr (w := w3) (l := [(⟨b0, 0, none⟩, .string C0), (⟨b0, 1, none⟩, .int .i64 z), (⟨b0, 2, none⟩, .slice ta tn tc), (⟨w.heap.size, 4, none⟩, .slice sa sn sc), (⟨w.heap.size, 5, none⟩, .slice (some ⟨cb, co, none⟩) cn cc)]) hs | exact AtF.dr (w := w3) (l := [(⟨b0, 0, none⟩, .string C0), (⟨b0, 1, none⟩, .int .i64 z), (⟨b0, 2, none⟩, .slice ta tn tc), (⟨w.heap.size, 4, none⟩, .slice sa sn sc), (⟨w.heap.size, 5, none⟩, .slice (some ⟨cb, co, none⟩) cn cc)]) (by assumption) | exact AtF.on (w := w3) (l := [(⟨b0, 0, none⟩, .string C0), (⟨b0, 1, none⟩, .int .i64 z), (⟨b0, 2, none⟩, .slice ta tn tc), (⟨w.heap.size, 4, none⟩, .slice sa sn sc), (⟨w.heap.size, 5, none⟩, .slice (some ⟨cb, co, none⟩) cn cc)]) (by assumption) (by assumption) | exact AtF.al (w := w3) (l := [(⟨b0, 0, none⟩, .string C0), (⟨b0, 1, none⟩, .int .i64 z), (⟨b0, 2, none⟩, .slice ta tn tc), (⟨w.heap.size, 4, none⟩, .slice sa sn sc), (⟨w.heap.size, 5, none⟩, .slice (some ⟨cb, co, none⟩) cn cc)]) (by assumption) _ | exact AtF.ald (w := w3) (l := [(⟨b0, 0, none⟩, .string C0), (⟨b0, 1, none⟩, .int .i64 z), (⟨b0, 2, none⟩, .slice ta tn tc), (⟨w.heap.size, 4, none⟩, .slice sa sn sc), (⟨w.heap.size, 5, none⟩, .slice (some ⟨cb, co, none⟩) cn cc)]) (by assumption) _ | exact AtF.al (w := w3) (l := [(⟨b0, 0, none⟩, .string C0), (⟨b0, 1, none⟩, .int .i64 z), (⟨b0, 2, none⟩, .slice ta tn tc), (⟨w.heap.size, 4, none⟩, .slice sa sn sc), (⟨w.heap.size, 5, none⟩, .slice (some ⟨cb, co, none⟩) cn cc)]) hs _ | exact AtF.ald (w := w3) (l := [(⟨b0, 0, none⟩, .string C0), (⟨b0, 1, none⟩, .int .i64 z), (⟨b0, 2, none⟩, .slice ta tn tc), (⟨w.heap.size, 4, none⟩, .slice sa sn sc), (⟨w.heap.size, 5, none⟩, .slice (some ⟨cb, co, none⟩) cn cc)]) hs _)
            clear hK K
            try simp only [Act.put, List.setIfInBounds_toArray, List.set_cons_zero, List.set_cons_succ]
            refine heldY 3 101 ?_ _ rfl rfl (by kernel_rfl) (by kernel_rfl) (by kernel_rfl) (fun _ _ _ h => h) rfl (by assumption) ?_ ?_
            rotate_left
            · (intro w hSw; (try dsimp only at hSw); go_simp; (try with_reducible rfl))
            try simp only [List.setIfInBounds_toArray, List.set_cons_zero, List.set_cons_succ]
            refine heldY 4 102 ?_ _ rfl rfl (by kernel_rfl) (by kernel_rfl) (by kernel_rfl) (fun _ _ _ h => h) rfl (by assumption) ?_ ?_
            rotate_left
            · (intro w hSw; (try dsimp only at hSw); go_simp; (try with_reducible rfl))
            try simp only [List.setIfInBounds_toArray, List.set_cons_zero, List.set_cons_succ]
            refine heldY 5 103 ?_ _ rfl rfl (by kernel_rfl) (by kernel_rfl) (by kernel_rfl) (fun _ _ _ h => h) rfl (by assumption) ?_ ?_
            rotate_left
            · (intro w hSw; (try dsimp only at hSw); go_simp; (try with_reducible rfl))
            try simp only [List.setIfInBounds_toArray, List.set_cons_zero, List.set_cons_succ]
            refine heldY 6 104 ?_ _ rfl rfl (by kernel_rfl) (by kernel_rfl) (by kernel_rfl) (fun _ _ _ h => h) rfl (by assumption) ?_ ?_
            rotate_left
            · (intro w hSw; (try dsimp only at hSw); go_simp; (try with_reducible rfl))
            try simp only [List.setIfInBounds_toArray, List.set_cons_zero, List.set_cons_succ]
            refine heldY 7 105 ?_ _ rfl rfl (by kernel_rfl) (by kernel_rfl) (by kernel_rfl) (fun _ _ _ h => h) rfl (by assumption) ?_ ?_
            rotate_left
            · (intro w hSw; (try dsimp only at hSw); go_simp; (try with_reducible rfl))
            try simp only [List.setIfInBounds_toArray, List.set_cons_zero, List.set_cons_succ]
            refine heldY 8 106 ?_ _ rfl rfl (by kernel_rfl) (by kernel_rfl) (by kernel_rfl) (fun _ _ _ h => h) rfl (by assumption) ?_ ?_
            rotate_left
            · (intro w hSw; (try dsimp only at hSw); go_simp; (try with_reducible rfl))
            try simp only [List.setIfInBounds_toArray, List.set_cons_zero, List.set_cons_succ]
            refine heldY 9 107 ?_ _ rfl rfl (by kernel_rfl) (by kernel_rfl) (by kernel_rfl) (fun _ _ _ h => h) rfl (by assumption) ?_ ?_
            rotate_left
            · (intro w hSw; (try dsimp only at hSw); go_simp; (try with_reducible rfl))
            try simp only [List.setIfInBounds_toArray, List.set_cons_zero, List.set_cons_succ]
            refine heldY 10 108 ?_ _ rfl rfl (by kernel_rfl) (by kernel_rfl) (by kernel_rfl) (fun _ _ _ h => h) rfl (by assumption) ?_ ?_
            rotate_left
            · (intro w hSw; (try dsimp only at hSw); go_simp; (try with_reducible rfl))
            try simp only [List.setIfInBounds_toArray, List.set_cons_zero, List.set_cons_succ]
            refine heldY 11 109 ?_ _ rfl rfl (by kernel_rfl) (by kernel_rfl) (by kernel_rfl) (fun _ _ _ h => h) rfl (by assumption) ?_ ?_
            rotate_left
            · (intro w hSw; (try dsimp only at hSw); go_simp; (try with_reducible rfl))
            try simp only [List.setIfInBounds_toArray, List.set_cons_zero, List.set_cons_succ]
            refine heldY 12 110 ?_ _ rfl rfl (by kernel_rfl) (by kernel_rfl) (by kernel_rfl) (fun _ _ _ h => h) rfl (by assumption) ?_ ?_
            rotate_left
            · (intro w hSw; (try dsimp only at hSw); go_simp; (try with_reducible rfl))
            try simp only [List.setIfInBounds_toArray, List.set_cons_zero, List.set_cons_succ]
            refine heldY 13 111 ?_ _ rfl rfl (by kernel_rfl) (by kernel_rfl) (by kernel_rfl) (fun _ _ _ h => h) rfl (by assumption) ?_ ?_
            rotate_left
            · (intro w hSw; (try dsimp only at hSw); go_simp; (try with_reducible rfl))
            try simp only [List.setIfInBounds_toArray, List.set_cons_zero, List.set_cons_succ]
            refine heldY 14 112 ?_ _ rfl rfl (by kernel_rfl) (by kernel_rfl) (by kernel_rfl) (fun _ _ _ h => h) rfl (by assumption) ?_ ?_
            rotate_left
            · (intro w hSw; (try dsimp only at hSw); go_simp; (try with_reducible rfl))
            try simp only [List.setIfInBounds_toArray, List.set_cons_zero, List.set_cons_succ]
            refine heldY 15 113 ?_ _ rfl rfl (by kernel_rfl) (by kernel_rfl) (by kernel_rfl) (fun _ _ _ h => h) rfl (by assumption) ?_ ?_
            rotate_left
            · (intro w hSw; (try dsimp only at hSw); go_simp; (try with_reducible rfl))
            try simp only [List.setIfInBounds_toArray, List.set_cons_zero, List.set_cons_succ]
            refine heldY 16 114 ?_ _ rfl rfl (by kernel_rfl) (by kernel_rfl) (by kernel_rfl) (fun _ _ _ h => h) rfl (by assumption) ?_ ?_
            rotate_left
            · (intro w hSw; (try dsimp only at hSw); go_simp; (try with_reducible rfl))
            try simp only [List.setIfInBounds_toArray, List.set_cons_zero, List.set_cons_succ]
            refine heldY 17 115 ?_ _ rfl rfl (by kernel_rfl) (by kernel_rfl) (by kernel_rfl) (fun _ _ _ h => h) rfl (by assumption) ?_ ?_
            rotate_left
            · (intro w hSw; (try dsimp only at hSw); go_simp; (try with_reducible rfl))
            try simp only [List.setIfInBounds_toArray, List.set_cons_zero, List.set_cons_succ]
            refine heldY 18 116 ?_ _ rfl rfl (by kernel_rfl) (by kernel_rfl) (by kernel_rfl) (fun _ _ _ h => h) rfl (by assumption) ?_ ?_
            rotate_left
            · (intro w hSw; (try dsimp only at hSw); go_simp; (try with_reducible rfl))
            try simp only [List.setIfInBounds_toArray, List.set_cons_zero, List.set_cons_succ]
            refine heldY 19 117 ?_ _ rfl rfl (by kernel_rfl) (by kernel_rfl) (by kernel_rfl) (fun _ _ _ h => h) rfl (by assumption) ?_ ?_
            rotate_left
            · (intro w hSw; (try dsimp only at hSw); go_simp; (try with_reducible rfl))
            try simp only [List.setIfInBounds_toArray, List.set_cons_zero, List.set_cons_succ]
            refine heldY 20 118 ?_ _ rfl rfl (by kernel_rfl) (by kernel_rfl) (by kernel_rfl) (fun _ _ _ h => h) rfl (by assumption) ?_ ?_
            rotate_left
            · (intro w hSw; (try dsimp only at hSw); go_simp; (try with_reducible rfl))
            try simp only [List.setIfInBounds_toArray, List.set_cons_zero, List.set_cons_succ]
            refine heldY 21 119 ?_ _ rfl rfl (by kernel_rfl) (by kernel_rfl) (by kernel_rfl) (fun _ _ _ h => h) rfl (by assumption) ?_ ?_
            rotate_left
            · (intro w hSw; (try dsimp only at hSw); go_simp; (try with_reducible rfl))
            try simp only [List.setIfInBounds_toArray, List.set_cons_zero, List.set_cons_succ]
            refine heldY 22 120 ?_ _ rfl rfl (by kernel_rfl) (by kernel_rfl) (by kernel_rfl) (fun _ _ _ h => h) rfl (by assumption) ?_ ?_
            rotate_left
            · (intro w hSw; (try dsimp only at hSw); go_simp; (try with_reducible rfl))
            try simp only [List.setIfInBounds_toArray, List.set_cons_zero, List.set_cons_succ]
            refine heldY 23 121 ?_ _ rfl rfl (by kernel_rfl) (by kernel_rfl) (by kernel_rfl) (fun _ _ _ h => h) rfl (by assumption) ?_ ?_
            rotate_left
            · (intro w hSw; (try dsimp only at hSw); go_simp; (try with_reducible rfl))
            try simp only [List.setIfInBounds_toArray, List.set_cons_zero, List.set_cons_succ]
            refine heldY 24 122 ?_ _ rfl rfl (by kernel_rfl) (by kernel_rfl) (by kernel_rfl) (fun _ _ _ h => h) rfl (by assumption) ?_ ?_
            rotate_left
            · (intro w hSw; (try dsimp only at hSw); go_simp; (try with_reducible rfl))
            try simp only [List.setIfInBounds_toArray, List.set_cons_zero, List.set_cons_succ]
            refine heldY 25 123 ?_ _ rfl rfl (by kernel_rfl) (by kernel_rfl) (by kernel_rfl) (fun _ _ _ h => h) rfl (by assumption) ?_ ?_
            rotate_left
            · (intro w hSw; (try dsimp only at hSw); go_simp; (try with_reducible rfl))
            try simp only [List.setIfInBounds_toArray, List.set_cons_zero, List.set_cons_succ]
            refine heldY 26 124 ?_ _ rfl rfl (by kernel_rfl) (by kernel_rfl) (by kernel_rfl) (fun _ _ _ h => h) rfl (by assumption) ?_ ?_
            rotate_left
            · (intro w hSw; (try dsimp only at hSw); go_simp; (try with_reducible rfl))
            try simp only [List.setIfInBounds_toArray, List.set_cons_zero, List.set_cons_succ]
            refine heldNo 27 125 rfl (by kernel_rfl) (by kernel_rfl) (by kernel_rfl) (fun _ _ _ h => h) rfl (by assumption) ?_
            try simp only [List.setIfInBounds_toArray, List.set_cons_zero, List.set_cons_succ]
            refine heldNo 28 126 rfl (by kernel_rfl) (by kernel_rfl) (by kernel_rfl) (fun _ _ _ h => h) rfl (by assumption) ?_
            try simp only [List.setIfInBounds_toArray, List.set_cons_zero, List.set_cons_succ]
            refine heldNo 29 127 rfl (by kernel_rfl) (by kernel_rfl) (by kernel_rfl) (fun _ _ _ h => h) rfl (by assumption) ?_
            try simp only [List.setIfInBounds_toArray, List.set_cons_zero, List.set_cons_succ]
            refine heldNo 30 128 rfl (by kernel_rfl) (by kernel_rfl) (by kernel_rfl) (fun _ _ _ h => h) rfl (by assumption) ?_
            try simp only [List.setIfInBounds_toArray, List.set_cons_zero, List.set_cons_succ]
            refine heldNo 31 129 rfl (by kernel_rfl) (by kernel_rfl) (by kernel_rfl) (fun _ _ _ h => h) rfl (by assumption) ?_
            try simp only [List.setIfInBounds_toArray, List.set_cons_zero, List.set_cons_succ]
            refine heldNo 32 130 rfl (by kernel_rfl) (by kernel_rfl) (by kernel_rfl) (fun _ _ _ h => h) rfl (by assumption) ?_
            try simp only [List.setIfInBounds_toArray, List.set_cons_zero, List.set_cons_succ]
            refine heldNo 33 131 rfl (by kernel_rfl) (by kernel_rfl) (by kernel_rfl) (fun _ _ _ h => h) rfl (by assumption) ?_
            try simp only [List.setIfInBounds_toArray, List.set_cons_zero, List.set_cons_succ]
            refine heldNo 34 132 rfl (by kernel_rfl) (by kernel_rfl) (by kernel_rfl) (fun _ _ _ h => h) rfl (by assumption) ?_
            try simp only [List.setIfInBounds_toArray, List.set_cons_zero, List.set_cons_succ]
            refine heldNo 35 133 rfl (by kernel_rfl) (by kernel_rfl) (by kernel_rfl) (fun _ _ _ h => h) rfl (by assumption) ?_
            try simp only [List.setIfInBounds_toArray, List.set_cons_zero, List.set_cons_succ]
            refine heldNo 36 134 rfl (by kernel_rfl) (by kernel_rfl) (by kernel_rfl) (fun _ _ _ h => h) rfl (by assumption) ?_
            try simp only [List.setIfInBounds_toArray, List.set_cons_zero, List.set_cons_succ]
            refine heldY 37 135 ?_ _ rfl rfl (by kernel_rfl) (by kernel_rfl) (by kernel_rfl) (fun _ _ _ h => h) rfl (by assumption) ?_ ?_
            rotate_left
            · (intro w hSw; (try dsimp only at hSw); go_simp; (try with_reducible rfl))
            try simp only [List.setIfInBounds_toArray, List.set_cons_zero, List.set_cons_succ]
            refine heldY 38 136 ?_ _ rfl rfl (by kernel_rfl) (by kernel_rfl) (by kernel_rfl) (fun _ _ _ h => h) rfl (by assumption) ?_ ?_
            rotate_left
            · (intro w hSw; (try dsimp only at hSw); go_simp; (try with_reducible rfl))
            try simp only [List.setIfInBounds_toArray, List.set_cons_zero, List.set_cons_succ]
            refine wpAnyH_done (by kernel_rfl) ?_ _
            have HW4 := Lib.hid (BE _ hHeld)
            have HV2 := Lib.hid hHeld.2.2.1
            clear hHeld
            try simp only [Bool.not_true]
            go_wp2
            go_loopw [8] (fun i wi => ∃ j : Nat, j ≤ tn ∧ i = .int .i64 j ∧ Hid (∀ (m : Nat) q, m < j → y.1.2.2[m]? = some q → tgC q = true) ∧ Hid (wi.cell? ⟨b0, 2, none⟩ = some (.slice ta tn tc)) ∧ Hid (Below w3.heap.size w3 wi)) (fun i _ => tn - (intOf i).toNat)
            case atStart => exact ⟨0, by omega, rfl, Lib.hid (fun m q hm => by omega), HV2, HW4⟩
            case round =>
              obtain ⟨j, hj, rfl, HJ, HJ2, HJB⟩ := hrel
              have v2 := HJ2.out
              by_cases hjn : j < tn
              · obtain ⟨rfl, htb⟩ := hta (by omega)
                obtain ⟨q, hq⟩ : ∃ q, y.1.2.2[j]? = some q := ⟨_, List.getElem?_eq_getElem (by rw [HTN.out]; exact hjn)⟩
                have t0 := ((HB3.out.trans (HJB.out.mono HB3.out.size)).cell (p := ⟨tb, tO + j, none⟩) htb).trans (HTC.out j q hq)
                have PQ := fun W => placeZ_ref (⟨q.toArray⟩ : ByteArray) (by rw [sizeOf, bytesOf]; exact HQS.out q (List.mem_of_getElem? hq)) W
                have he := eqTL (⟨q.toArray⟩ : ByteArray) []
                rw [bytesOf] at PQ he
                have HBQ : Hid (tgC q = false → false = R) := Lib.hid (fun g => HBADq.out q (List.mem_of_getElem? hq) g)
                have HNQ : Hid (tgC q = true → ∀ (m : Nat) p, m < j + 1 → y.1.2.2[m]? = some p → tgC p = true) := Lib.hid (fun g m p hm hp => by
                  by_cases e : m = j
                  · subst e; rw [hq] at hp; cases hp; exact g
                  · exact HJ.out m p (by omega) hp)
                have i0 : (0 : Int) ≤ (j : Int) := by omega
                have i1 : (j : Int) < (tn : Int) := by omega
                have HTG : Hid (tgC q = (decide (q = []) || plZ q)) := Lib.hid rfl
                generalize tgC q = g at *
                generalize plZ q = pq at *
                generalize decide (q = []) = eq0 at *
                generalize (⟨q.toArray⟩ : ByteArray) = Q at *
                clear hq HJ
                cases eq0
                · cases pq
                  · have HF := Lib.hid (HBQ.out (by rw [HTG.out]; rfl))
                    clear HBQ HNQ HTG
                    go_wp2_with (go_at_call 71; (with_reducible refine (PQ _).mono ?_); rintro e w7 ⟨rfl, hb⟩; have HB7 := Lib.hid (HJB.out.trans (hb.mono HJB.out.size)); clear hb)
                    go_ret
                    exact ⟨retb HF.out, HB3.out.trans (HB7.out.mono HB3.out.size)⟩
                  · have HK := Lib.hid (HNQ.out (by rw [HTG.out]; rfl))
                    clear HBQ HNQ HTG
                    go_wp2_with (go_at_call 71; (with_reducible refine (PQ _).mono ?_); rintro e w7 ⟨rfl, hb⟩; have HB7 := Lib.hid (HJB.out.trans (hb.mono HJB.out.size)); have HV7 := Lib.hid ((hb.cell (p := ⟨b0, 2, none⟩) (World.block_lt_of_cell? _ _ v2)).trans v2); clear hb)
                    go_roundw
                    case rel => exact ⟨j + 1, by omega, by go_num, HK, HV7, HB7⟩
                    case measure => simp [intOf]; omega
                · have HK := Lib.hid (HNQ.out (by rw [HTG.out]; rfl))
                  clear HBQ HNQ HTG PQ
                  go_wp2
                  go_roundw
                  case rel => exact ⟨j + 1, by omega, by go_num, HK, HJ2, HJB⟩
                  case measure => simp [intOf]; omega
              · obtain rfl : j = tn := by omega
                have HK := Lib.hid (HNEXT.out (List.all_eq_true.2 (fun q hq => by obtain ⟨m, hm⟩ := List.mem_iff_getElem?.1 hq; exact HJ.out m q (by have := (List.getElem?_eq_some_iff.1 hm).1; rw [HTN.out] at this; exact this) hm)))
                clear hjn HJ
                go_wp2
                go_roundw
                case rel => exact ⟨k + 1, by omega, by go_num, HK, HJB⟩
                case measure => simp [intOf]; omega
        · obtain rfl : k = cn := by omega
          have HL2 : Hid (StepsC sn x.ch) := Lib.hid (fun i y hy => H.out i y (by have := (List.getElem?_eq_some_iff.1 hy).1; rw [HCN.out] at this; exact this) hy)
          have HRES : Hid (R = (decide (0 ≤ idxC x.ch x.cr) && (mn || decide (idxC x.ch x.cr = bestC x.ch)))) := Lib.hid (by
            by_cases g : CurOk x
            · rw [← HYES.out (HGD.out.2 ⟨by rw [HSN.out]; omega, by rw [HCN.out]; exact hb2, by rw [HCN.out]; exact hb3, HL1.out, by rw [HSN.out]; exact HL2.out, g⟩), decide_eq_true g.there, ← HMN.out]
              rcases g.best with g | g
              · rw [g]; rfl
              · rw [decide_eq_true g]; simp
            · rw [← HNO.out (fun q => g q.cr)]
              symm
              rw [Bool.eq_false_iff]
              intro q
              simp only [Bool.and_eq_true, Bool.or_eq_true, decide_eq_true_eq] at q
              exact g ⟨q.1, by rw [HMN.out]; exact q.2⟩)
          have HBW := Lib.hid (HB3.out.trans (HB.out.mono HB3.out.size))
          have hlw0 := World.block_lt_of_cell? _ _ X4.out.1
          obtain ⟨p0, p1, p2, p3, p4, p5⟩ := X4.out
          have q0 := (HB.out.cell (p := ⟨w.heap.size, 0, none⟩) hlw0).trans p0
          have q1 := (HB.out.cell (p := ⟨w.heap.size, 1, none⟩) hlw0).trans p1
          have q2 := (HB.out.cell (p := ⟨w.heap.size, 2, none⟩) hlw0).trans p2
          have q3 := (HB.out.cell (p := ⟨w.heap.size, 3, none⟩) hlw0).trans p3
          have q4 := (HB.out.cell (p := ⟨w.heap.size, 4, none⟩) hlw0).trans p4
          have q5 := (HB.out.cell (p := ⟨w.heap.size, 5, none⟩) hlw0).trans p5
          have lq := World.block_lt_of_cell? _ _ q0
          generalize idxC x.ch x.cr = z at *
          generalize bestC x.ch = yy at *
          clear p0 p1 p2 p3 p4 p5 z4 z5 y4 y5 HL1 HL2 H HNO HYES HGD hlt X4 hb2 hb3
          by_cases hz : 0 ≤ z
          · have hdz : decide (z ≥ 0) = true := decide_eq_true hz
            rw [decide_eq_true hz] at HRES
            cases mn
            all_goals
              go_wp2_with (first
                | (go_at_call 26; (with_reducible refine (CH _ HBW.out).mono ?_); rintro e w8 ⟨rfl, hb⟩; have HB8 := Lib.hid (HBW.out.trans (hb.mono HBW.out.size)); have t0 := (hb.cell (p := ⟨w.heap.size, 0, none⟩) lq).trans q0; have t1 := (hb.cell (p := ⟨w.heap.size, 1, none⟩) lq).trans q1; have t2 := (hb.cell (p := ⟨w.heap.size, 2, none⟩) lq).trans q2; have t3 := (hb.cell (p := ⟨w.heap.size, 3, none⟩) lq).trans q3; have t4 := (hb.cell (p := ⟨w.heap.size, 4, none⟩) lq).trans q4; have t5 := (hb.cell (p := ⟨w.heap.size, 5, none⟩) lq).trans q5; clear hb)
                | (go_at_call 12; (with_reducible refine (BST _ HB8.out).mono ?_); rintro e w9 ⟨rfl, hb⟩; have HB9 := Lib.hid (HB8.out.trans (hb.mono HB8.out.size)); clear hb))
              go_ret
              first | exact ⟨retb (by rw [HRES.out, Bool.eq_iff_iff]; simp), HB9.out⟩ | exact ⟨retb (by rw [HRES.out]; simp), HB8.out⟩
          · have hdz : decide (z ≥ 0) = false := decide_eq_false hz
            rw [decide_eq_false hz] at HRES
            clear BST
            go_wp2_with (go_at_call 26; (with_reducible refine (CH _ HBW.out).mono ?_); rintro e w8 ⟨rfl, hb⟩; have HB8 := Lib.hid (HBW.out.trans (hb.mono HBW.out.size)); have t0 := (hb.cell (p := ⟨w.heap.size, 0, none⟩) lq).trans q0; have t1 := (hb.cell (p := ⟨w.heap.size, 1, none⟩) lq).trans q1; have t2 := (hb.cell (p := ⟨w.heap.size, 2, none⟩) lq).trans q2; have t3 := (hb.cell (p := ⟨w.heap.size, 3, none⟩) lq).trans q3; have t4 := (hb.cell (p := ⟨w.heap.size, 4, none⟩) lq).trans q4; have t5 := (hb.cell (p := ⟨w.heap.size, 5, none⟩) lq).trans q5; clear hb)
            go_ret
            exact ⟨retb (by rw [HRES.out]; simp), HB8.out⟩
end Go.Proofs.YtnfhccnicojdcaaGreatDoor
