/-
  The reference's CheckFired: what it returns; nothing old turns.
-/
import Derived.Test.YtceohgjfjndcmaaGreatDoorGFind
namespace Go.Proofs.YtceohgjfjndcmaaGreatDoor
open Go.RowKit
theorem rightF_is (x : Fr) : rightF x = (trigB x.1 && (namesB x.2 && riseB x.2)) := by unfold rightF; rw [chkG_names]
theorem chkF_long {l : List Fr} (h : 64 < l.length) : chkF l = 22 := by
  by_cases g : CrowdF l
  · exact chkF_crowd g
  · rw [chkF_calm g, kchkF_long h]
set_option maxRecDepth 100000 in
set_option maxHeartbeats 16000000 in
theorem chkF_ref (v : Value) (L : List Fp) (hl : L.length ≤ 90000) (hs : SmallF L) (w : World) (h : HoldF w v L) :
    Calls Tryz.prog 19 #[v] w fun e w' => e = .returned (.int .i64 (chkF (L.map (·.1)))) ∧ Below w.heap.size w w' := by
  have hin := h.1
  obtain ⟨a, c, b, o, rfl, hc, ha, hcell⟩ := h.parts
  have HC := Lib.hid hcell
  have HI := Lib.hid hin
  have HS := Lib.hid hs
  have hml : (L.map (·.1)).length = L.length := List.length_map ..
  obtain ⟨Z, HZ⟩ : ∃ Z, Hid (chkF (L.map (·.1)) = Z) := ⟨_, rfl⟩
  rw [HZ.out]
  obtain ⟨n, hN⟩ : ∃ n, L.length = n := ⟨_, rfl⟩
  rw [hN] at hc ha hl hml ⊢
  have HN := Lib.hid hN
  have HML := Lib.hid hml
  clear hcell hs hN hin hml h
  have HAT : Hid (∀ (i : Nat) p, L[i]? = some p → (L.map (·.1))[i]? = some p.1) := Lib.hid (fun i p hp => by rw [List.getElem?_map, hp]; rfl)
  have HCR : Hid (∀ (i : Nat) p, L[i]? = some p → 64 < p.1.2.length → (22 : Int) = Z) := Lib.hid (fun i p hp g => by
    rw [← HZ.out, chkF_crowd ⟨p.1, List.mem_map.2 ⟨p, List.mem_of_getElem? hp, rfl⟩, g⟩])
  have HCALM : Hid ((∀ (i : Nat) p, L[i]? = some p → ¬ 64 < p.1.2.length) → ¬ CrowdF (L.map (·.1))) := Lib.hid (fun g => by
    rintro ⟨x, hx, hx2⟩
    obtain ⟨p, hp, rfl⟩ := List.mem_map.1 hx
    obtain ⟨i, hi⟩ := List.mem_iff_getElem?.1 hp
    exact g i p hi hx2)
  go_enter Tryz.func19, Tryz.ntmps19
  go_wp2
  go_loop [3] (fun i => ∃ k : Nat, k ≤ n ∧ i = .int .i64 k ∧ Hid (∀ (j : Nat) p, j < k → L[j]? = some p → ¬ 64 < p.1.2.length)) (fun i => n - (intOf i).toNat)
  case atStart => exact ⟨0, by omega, rfl, Lib.hid (fun j y hj => by omega)⟩
  case round =>
    obtain ⟨k, hk, rfl, H0⟩ := hrel
    by_cases hlt : k < n
    · obtain ⟨rfl, hbw⟩ := ha (by omega)
      obtain ⟨p, hp⟩ : ∃ p, L[k]? = some p := ⟨_, List.getElem?_eq_getElem (by rw [HN.out]; exact hlt)⟩
      obtain ⟨c0, c1⟩ := HC.out k p hp
      obtain ⟨ua, uc, hu⟩ := HoldT.form (HI.out p (List.mem_of_getElem? hp))
      rw [hu] at c1
      have hps := (HS.out p (List.mem_of_getElem? hp)).2.1
      obtain ⟨m, hm⟩ : ∃ m, p.1.2.length = m := ⟨_, rfl⟩
      by_cases h64 : 64 < p.1.2.length
      · have HF := Lib.hid (HCR.out k p hp h64)
        rw [hm] at c1 h64 hps
        clear H0 HC HI HS hu hm hp HCR HCALM
        go_wp2
        go_ret
        exact ⟨reti HF.out, Below.refl _ _⟩
      · have HK : Hid (∀ (j : Nat) p, j < k + 1 → L[j]? = some p → ¬ 64 < p.1.2.length) := Lib.hid (fun j q hj hq => by
          by_cases e : j = k
          · subst e; rw [hp] at hq; cases hq; exact h64
          · exact H0.out j q (by omega) hq)
        rw [hm] at c1 h64 hps
        clear H0 HC HI HS hu hm hp HCR HCALM
        go_wp2
        go_round
        case rel => exact ⟨k + 1, by omega, by go_num, HK⟩
        case measure => simp [intOf]; omega
    obtain rfl : k = n := by omega
    have HNC := Lib.hid (HCALM.out (fun i p hi => H0.out i p (by have := (List.getElem?_eq_some_iff.1 hi).1; rw [HN.out] at this; exact this) hi))
    clear H0 HCR HCALM hlt
    by_cases h64 : 64 < k
    · have HF : Hid ((22 : Int) = Z) := Lib.hid (by rw [← HZ.out, chkF_long (by rw [HML.out]; exact h64)])
      go_wp2
      go_ret
      exact ⟨reti HF.out, Below.refl _ _⟩
    have HBAD : Hid (∀ (i : Nat) p, L[i]? = some p → ¬ stepF (L.map (·.1)) i p.1 → (1 : Int) = Z) := Lib.hid (fun i p hp g => by rw [← HZ.out, chkF_calm HNC.out, kchkF_no (by rw [HML.out]; exact h64) (fun q => g (q i p.1 (HAT.out i p hp)))])
    have HOK : Hid (StepsF (L.map (·.1)) → (0 : Int) = Z) := Lib.hid (fun g => by rw [← HZ.out, chkF_calm HNC.out, kchkF_ok (by rw [HML.out]; exact h64) g])
    clear HZ
    obtain ⟨n, hn⟩ : ∃ n, n = k := ⟨_, rfl⟩
    obtain rfl := hn
    go_wp2
    go_loopw [4] (fun i wr => ∃ k : Nat, k ≤ n ∧ i = .int .i64 k ∧ Hid (∀ (j : Nat) p, j < k → L[j]? = some p → stepF (L.map (·.1)) j p.1) ∧ Hid (Below w.heap.size w wr)) (fun i _ => n - (intOf i).toNat)
    case atStart => exact ⟨0, by omega, rfl, Lib.hid (fun j y hj => by omega), Lib.hid (Below.refl _ _)⟩
    case round =>
      obtain ⟨k, hk, rfl, H, HB⟩ := hrel
      by_cases hlt : k < n
      · obtain ⟨rfl, hbw⟩ := ha (by omega)
        obtain ⟨p, hp⟩ : ∃ p, L[k]? = some p := ⟨_, List.getElem?_eq_getElem (by rw [HN.out]; exact hlt)⟩
        obtain ⟨c0, c1⟩ := HC.out k p hp
        rw [← HB.out.cell (p := ⟨b, o + k * 2, none⟩) hbw] at c0
        rw [← HB.out.cell (p := ⟨b, o + k * 2 + 1, none⟩) hbw] at c1
        have hpm := List.mem_of_getElem? hp
        obtain ⟨ua, un, uc, hu⟩ := HoldT.form3 (HI.out p hpm)
        have TR := fun W => trig_ref (bsT p.1.1) (by rw [sizeOf, bytesOf]; exact (HS.out p hpm).1) W
        have NM := fun W (hb : Below w.heap.size w W) => names_ref p.2 p.1.2 (HS.out p hpm).2.1 (HS.out p hpm).2.2 W ((HI.out p hpm).on hb)
        have RI := fun W (hb : Below w.heap.size w W) => rising_ref p.2 p.1.2 (HS.out p hpm).2.1 W ((HI.out p hpm).on hb)
        rw [bytesOf] at TR
        rw [hu] at NM RI c1
        have HX := Lib.hid hp
        have hsz := HB.out.size
        have hB := HB.out
        have j0 : (0 : Int) ≤ (k : Int) := by omega
        have j1 : (k : Int) < (n : Int) := by omega
        have HR : Hid (rightF (p.1.1, p.1.2) = (trigB p.1.1 && (namesB p.1.2 && riseB p.1.2))) := Lib.hid (rightF_is _)
        clear hp hpm hu
        cases ht : trigB p.1.1
        · simp only [ht] at TR
          have HF := Lib.hid (HBAD.out k p HX.out (fun g => by have := g.1; rw [show p.1 = (p.1.1, p.1.2) from rfl] at this; rw [HR.out, ht] at this; simp at this))
          clear ht H HBAD HOK HC HS HI HX HR
          generalize bsT p.1.1 = X at *
          have hs := And.intro c0 (And.intro c1 hB)
          go_wp2
          have BE := fun (V : World) (h : V.cell? ⟨b, o + k * 2, none⟩ = some (.string X) ∧ V.cell? ⟨b, o + k * 2 + 1, none⟩ = some (.slice ua un uc) ∧ Below w.heap.size w V) => AtF.be (w := w) (l := [(⟨b, o + k * 2, none⟩, .string X), (⟨b, o + k * 2 + 1, none⟩, .slice ua un uc)]) h
          refine wp_region_held_drew (S := (fun V => V.cell? ⟨b, o + k * 2, none⟩ = some (.string X) ∧ V.cell? ⟨b, o + k * 2 + 1, none⟩ = some (.slice ua un uc) ∧ Below w.heap.size w V)) (by kernel_rfl) ?_ (fun hHeld => ?_)
          · (try dsimp only); (first | assumption | exact hs | exact AtF.dr (w := w) (l := [(⟨b, o + k * 2, none⟩, .string X), (⟨b, o + k * 2 + 1, none⟩, .slice ua un uc)]) hs | exact AtF.dr (w := w) (l := [(⟨b, o + k * 2, none⟩, .string X), (⟨b, o + k * 2 + 1, none⟩, .slice ua un uc)]) (by assumption) | exact AtF.on (w := w) (l := [(⟨b, o + k * 2, none⟩, .string X), (⟨b, o + k * 2 + 1, none⟩, .slice ua un uc)]) (by assumption) (by assumption) | exact AtF.al (w := w) (l := [(⟨b, o + k * 2, none⟩, .string X), (⟨b, o + k * 2 + 1, none⟩, .slice ua un uc)]) (by assumption) _ | exact AtF.ald (w := w) (l := [(⟨b, o + k * 2, none⟩, .string X), (⟨b, o + k * 2 + 1, none⟩, .slice ua un uc)]) (by assumption) _ | exact AtF.al (w := w) (l := [(⟨b, o + k * 2, none⟩, .string X), (⟨b, o + k * 2 + 1, none⟩, .slice ua un uc)]) hs _ | exact AtF.ald (w := w) (l := [(⟨b, o + k * 2, none⟩, .string X), (⟨b, o + k * 2 + 1, none⟩, .slice ua un uc)]) hs _)
          refine heldY 0 27 ?_ _ rfl rfl (by kernel_rfl) (by kernel_rfl) (by kernel_rfl) (fun _ _ _ h => h) rfl (by assumption) ?_ ?_
          rotate_left
          · (intro w hSw; (try dsimp only at hSw); go_simp; (try with_reducible rfl))
          simp only [List.setIfInBounds_toArray, List.set_cons_zero, List.set_cons_succ]
          refine heldY 1 28 ?_ _ rfl rfl (by kernel_rfl) (by kernel_rfl) (by kernel_rfl) (fun _ _ _ h => h) rfl (by assumption) ?_ ?_
          rotate_left
          · (intro w hSw; (try dsimp only at hSw); go_simp; (try with_reducible rfl))
          simp only [List.setIfInBounds_toArray, List.set_cons_zero, List.set_cons_succ]
          refine heldY 2 29 ?_ _ rfl rfl (by kernel_rfl) (by kernel_rfl) (by kernel_rfl) (fun _ _ _ h => h) rfl (by assumption) ?_ ?_
          rotate_left
          · (intro w hSw; (try dsimp only at hSw); go_simp; (try with_reducible rfl))
          simp only [List.setIfInBounds_toArray, List.set_cons_zero, List.set_cons_succ]
          refine heldY 3 30 ?_ _ rfl rfl (by kernel_rfl) (by kernel_rfl) (by kernel_rfl) (fun _ _ _ h => h) rfl (by assumption) ?_ ?_
          rotate_left
          · (intro w hSw; (try dsimp only at hSw); go_simp; (try with_reducible rfl))
          simp only [List.setIfInBounds_toArray, List.set_cons_zero, List.set_cons_succ]
          refine heldY 4 31 ?_ _ rfl rfl (by kernel_rfl) (by kernel_rfl) (by kernel_rfl) (fun _ _ _ h => h) rfl (by assumption) ?_ ?_
          rotate_left
          · (intro w hSw; (try dsimp only at hSw); go_simp; (try with_reducible rfl))
          simp only [List.setIfInBounds_toArray, List.set_cons_zero, List.set_cons_succ]
          refine wpAnyH_ready (rs := [5]) (by kernel_rfl) (by simp) ?_
          refine AllReadyH.cons rfl (fun K hK => ?_) AllReadyH.nil
          go_simp
          first | (go_at_call 37; (with_reducible refine (TR _).mono ?_); rintro e w3 ⟨rfl, hb⟩) | (go_at_call 48; (with_reducible refine (NM _ (BE _ (by assumption))).mono ?_); rintro e w3 ⟨rfl, rfl⟩) | (go_at_call 49; (with_reducible refine (RI _ (BE _ (by assumption))).mono ?_); rintro e w3 ⟨rfl, hb⟩)
          refine hK.out _ _ ?_ (fun hHeld => ?_)
          · (try dsimp only); (first | assumption | exact hs | exact AtF.dr (w := w) (l := [(⟨b, o + k * 2, none⟩, .string X), (⟨b, o + k * 2 + 1, none⟩, .slice ua un uc)]) hs | exact AtF.dr (w := w) (l := [(⟨b, o + k * 2, none⟩, .string X), (⟨b, o + k * 2 + 1, none⟩, .slice ua un uc)]) (by assumption) | exact AtF.on (w := w) (l := [(⟨b, o + k * 2, none⟩, .string X), (⟨b, o + k * 2 + 1, none⟩, .slice ua un uc)]) (by assumption) (by assumption) | exact AtF.al (w := w) (l := [(⟨b, o + k * 2, none⟩, .string X), (⟨b, o + k * 2 + 1, none⟩, .slice ua un uc)]) (by assumption) _ | exact AtF.ald (w := w) (l := [(⟨b, o + k * 2, none⟩, .string X), (⟨b, o + k * 2 + 1, none⟩, .slice ua un uc)]) (by assumption) _ | exact AtF.al (w := w) (l := [(⟨b, o + k * 2, none⟩, .string X), (⟨b, o + k * 2 + 1, none⟩, .slice ua un uc)]) hs _ | exact AtF.ald (w := w) (l := [(⟨b, o + k * 2, none⟩, .string X), (⟨b, o + k * 2 + 1, none⟩, .slice ua un uc)]) hs _)
          clear hK K
          try simp only [Act.put, List.setIfInBounds_toArray, List.set_cons_zero, List.set_cons_succ]
          refine heldY 6 33 ?_ _ rfl rfl (by kernel_rfl) (by kernel_rfl) (by kernel_rfl) (fun _ _ _ h => h) rfl (by assumption) ?_ ?_
          rotate_left
          · (intro w hSw; (try dsimp only at hSw); go_simp; (try with_reducible rfl))
          simp only [List.setIfInBounds_toArray, List.set_cons_zero, List.set_cons_succ]
          refine heldY 7 34 ?_ _ rfl rfl (by kernel_rfl) (by kernel_rfl) (by kernel_rfl) (fun _ _ _ h => h) rfl (by assumption) ?_ ?_
          rotate_left
          · (intro w hSw; (try dsimp only at hSw); go_simp; (try with_reducible rfl))
          simp only [List.setIfInBounds_toArray, List.set_cons_zero, List.set_cons_succ]
          refine heldNo 8 35 rfl (by kernel_rfl) (by kernel_rfl) (by kernel_rfl) (fun _ _ _ h => h) rfl (by assumption) ?_
          simp only [List.setIfInBounds_toArray, List.set_cons_zero, List.set_cons_succ]
          refine heldNo 9 36 rfl (by kernel_rfl) (by kernel_rfl) (by kernel_rfl) (fun _ _ _ h => h) rfl (by assumption) ?_
          simp only [List.setIfInBounds_toArray, List.set_cons_zero, List.set_cons_succ]
          refine heldNo 10 37 rfl (by kernel_rfl) (by kernel_rfl) (by kernel_rfl) (fun _ _ _ h => h) rfl (by assumption) ?_
          simp only [List.setIfInBounds_toArray, List.set_cons_zero, List.set_cons_succ]
          refine heldNo 11 38 rfl (by kernel_rfl) (by kernel_rfl) (by kernel_rfl) (fun _ _ _ h => h) rfl (by assumption) ?_
          simp only [List.setIfInBounds_toArray, List.set_cons_zero, List.set_cons_succ]
          refine heldNo 12 39 rfl (by kernel_rfl) (by kernel_rfl) (by kernel_rfl) (fun _ _ _ h => h) rfl (by assumption) ?_
          simp only [List.setIfInBounds_toArray, List.set_cons_zero, List.set_cons_succ]
          refine heldNo 13 40 rfl (by kernel_rfl) (by kernel_rfl) (by kernel_rfl) (fun _ _ _ h => h) rfl (by assumption) ?_
          simp only [List.setIfInBounds_toArray, List.set_cons_zero, List.set_cons_succ]
          refine heldNo 14 41 rfl (by kernel_rfl) (by kernel_rfl) (by kernel_rfl) (fun _ _ _ h => h) rfl (by assumption) ?_
          simp only [List.setIfInBounds_toArray, List.set_cons_zero, List.set_cons_succ]
          refine heldY 15 42 ?_ _ rfl rfl (by kernel_rfl) (by kernel_rfl) (by kernel_rfl) (fun _ _ _ h => h) rfl (by assumption) ?_ ?_
          rotate_left
          · (intro w hSw; (try dsimp only at hSw); go_simp; (try with_reducible rfl))
          simp only [List.setIfInBounds_toArray, List.set_cons_zero, List.set_cons_succ]
          refine heldY 16 43 ?_ _ rfl rfl (by kernel_rfl) (by kernel_rfl) (by kernel_rfl) (fun _ _ _ h => h) rfl (by assumption) ?_ ?_
          rotate_left
          · (intro w hSw; (try dsimp only at hSw); go_simp; (try with_reducible rfl))
          simp only [List.setIfInBounds_toArray, List.set_cons_zero, List.set_cons_succ]
          refine heldNo 17 44 rfl (by kernel_rfl) (by kernel_rfl) (by kernel_rfl) (fun _ _ _ h => h) rfl (by assumption) ?_
          simp only [List.setIfInBounds_toArray, List.set_cons_zero, List.set_cons_succ]
          refine heldNo 18 45 rfl (by kernel_rfl) (by kernel_rfl) (by kernel_rfl) (fun _ _ _ h => h) rfl (by assumption) ?_
          simp only [List.setIfInBounds_toArray, List.set_cons_zero, List.set_cons_succ]
          refine heldNo 19 46 rfl (by kernel_rfl) (by kernel_rfl) (by kernel_rfl) (fun _ _ _ h => h) rfl (by assumption) ?_
          simp only [List.setIfInBounds_toArray, List.set_cons_zero, List.set_cons_succ]
          refine heldNo 20 47 rfl (by kernel_rfl) (by kernel_rfl) (by kernel_rfl) (fun _ _ _ h => h) rfl (by assumption) ?_
          simp only [List.setIfInBounds_toArray, List.set_cons_zero, List.set_cons_succ]
          refine heldNo 21 48 rfl (by kernel_rfl) (by kernel_rfl) (by kernel_rfl) (fun _ _ _ h => h) rfl (by assumption) ?_
          simp only [List.setIfInBounds_toArray, List.set_cons_zero, List.set_cons_succ]
          refine heldNo 22 49 rfl (by kernel_rfl) (by kernel_rfl) (by kernel_rfl) (fun _ _ _ h => h) rfl (by assumption) ?_
          simp only [List.setIfInBounds_toArray, List.set_cons_zero, List.set_cons_succ]
          refine heldNo 23 50 rfl (by kernel_rfl) (by kernel_rfl) (by kernel_rfl) (fun _ _ _ h => h) rfl (by assumption) ?_
          simp only [List.setIfInBounds_toArray, List.set_cons_zero, List.set_cons_succ]
          refine heldY 24 51 ?_ _ rfl rfl (by kernel_rfl) (by kernel_rfl) (by kernel_rfl) (fun _ _ _ h => h) rfl (by assumption) ?_ ?_
          rotate_left
          · (intro w hSw; (try dsimp only at hSw); go_simp; (try with_reducible rfl))
          simp only [List.setIfInBounds_toArray, List.set_cons_zero, List.set_cons_succ]
          refine heldY 25 52 ?_ _ rfl rfl (by kernel_rfl) (by kernel_rfl) (by kernel_rfl) (fun _ _ _ h => h) rfl (by assumption) ?_ ?_
          rotate_left
          · (intro w hSw; (try dsimp only at hSw); go_simp; (try with_reducible rfl))
          simp only [List.setIfInBounds_toArray, List.set_cons_zero, List.set_cons_succ]
          refine heldNo 26 53 rfl (by kernel_rfl) (by kernel_rfl) (by kernel_rfl) (fun _ _ _ h => h) rfl (by assumption) ?_
          simp only [List.setIfInBounds_toArray, List.set_cons_zero, List.set_cons_succ]
          refine heldNo 27 54 rfl (by kernel_rfl) (by kernel_rfl) (by kernel_rfl) (fun _ _ _ h => h) rfl (by assumption) ?_
          simp only [List.setIfInBounds_toArray, List.set_cons_zero, List.set_cons_succ]
          refine heldNo 28 55 rfl (by kernel_rfl) (by kernel_rfl) (by kernel_rfl) (fun _ _ _ h => h) rfl (by assumption) ?_
          simp only [List.setIfInBounds_toArray, List.set_cons_zero, List.set_cons_succ]
          refine heldNo 29 56 rfl (by kernel_rfl) (by kernel_rfl) (by kernel_rfl) (fun _ _ _ h => h) rfl (by assumption) ?_
          simp only [List.setIfInBounds_toArray, List.set_cons_zero, List.set_cons_succ]
          refine heldNo 30 57 rfl (by kernel_rfl) (by kernel_rfl) (by kernel_rfl) (fun _ _ _ h => h) rfl (by assumption) ?_
          simp only [List.setIfInBounds_toArray, List.set_cons_zero, List.set_cons_succ]
          refine heldNo 31 58 rfl (by kernel_rfl) (by kernel_rfl) (by kernel_rfl) (fun _ _ _ h => h) rfl (by assumption) ?_
          simp only [List.setIfInBounds_toArray, List.set_cons_zero, List.set_cons_succ]
          refine heldNo 32 59 rfl (by kernel_rfl) (by kernel_rfl) (by kernel_rfl) (fun _ _ _ h => h) rfl (by assumption) ?_
          simp only [List.setIfInBounds_toArray, List.set_cons_zero, List.set_cons_succ]
          refine heldNo 33 60 rfl (by kernel_rfl) (by kernel_rfl) (by kernel_rfl) (fun _ _ _ h => h) rfl (by assumption) ?_
          simp only [List.setIfInBounds_toArray, List.set_cons_zero, List.set_cons_succ]
          refine heldNo 34 61 rfl (by kernel_rfl) (by kernel_rfl) (by kernel_rfl) (fun _ _ _ h => h) rfl (by assumption) ?_
          simp only [List.setIfInBounds_toArray, List.set_cons_zero, List.set_cons_succ]
          refine heldNo 35 62 rfl (by kernel_rfl) (by kernel_rfl) (by kernel_rfl) (fun _ _ _ h => h) rfl (by assumption) ?_
          simp only [List.setIfInBounds_toArray, List.set_cons_zero, List.set_cons_succ]
          refine heldNo 36 63 rfl (by kernel_rfl) (by kernel_rfl) (by kernel_rfl) (fun _ _ _ h => h) rfl (by assumption) ?_
          simp only [List.setIfInBounds_toArray, List.set_cons_zero, List.set_cons_succ]
          refine heldNo 37 64 rfl (by kernel_rfl) (by kernel_rfl) (by kernel_rfl) (fun _ _ _ h => h) rfl (by assumption) ?_
          simp only [List.setIfInBounds_toArray, List.set_cons_zero, List.set_cons_succ]
          refine heldNo 38 65 rfl (by kernel_rfl) (by kernel_rfl) (by kernel_rfl) (fun _ _ _ h => h) rfl (by assumption) ?_
          simp only [List.setIfInBounds_toArray, List.set_cons_zero, List.set_cons_succ]
          refine heldNo 39 66 rfl (by kernel_rfl) (by kernel_rfl) (by kernel_rfl) (fun _ _ _ h => h) rfl (by assumption) ?_
          simp only [List.setIfInBounds_toArray, List.set_cons_zero, List.set_cons_succ]
          refine heldNo 40 67 rfl (by kernel_rfl) (by kernel_rfl) (by kernel_rfl) (fun _ _ _ h => h) rfl (by assumption) ?_
          simp only [List.setIfInBounds_toArray, List.set_cons_zero, List.set_cons_succ]
          refine heldNo 41 68 rfl (by kernel_rfl) (by kernel_rfl) (by kernel_rfl) (fun _ _ _ h => h) rfl (by assumption) ?_
          simp only [List.setIfInBounds_toArray, List.set_cons_zero, List.set_cons_succ]
          refine heldY 42 69 ?_ _ rfl rfl (by kernel_rfl) (by kernel_rfl) (by kernel_rfl) (fun _ _ _ h => h) rfl (by assumption) ?_ ?_
          rotate_left
          · (intro w hSw; (try dsimp only at hSw); go_simp; (try with_reducible rfl))
          simp only [List.setIfInBounds_toArray, List.set_cons_zero, List.set_cons_succ]
          refine wpAnyH_done (by kernel_rfl) ?_ _
          have HW3 := Lib.hid (BE _ hHeld)
          clear hHeld
          go_wp2
          go_ret
          exact ⟨reti HF.out, HW3.out⟩
        · simp only [ht] at TR
          cases hn : namesB p.1.2
          · simp only [hn] at NM
            have HF := Lib.hid (HBAD.out k p HX.out (fun g => by have := g.1; rw [show p.1 = (p.1.1, p.1.2) from rfl] at this; rw [HR.out, ht, hn] at this; simp at this))
            clear ht hn H HBAD HOK HC HS HI HX HR
            generalize bsT p.1.1 = X at *
            have hs := And.intro c0 (And.intro c1 hB)
            go_wp2
            have BE := fun (V : World) (h : V.cell? ⟨b, o + k * 2, none⟩ = some (.string X) ∧ V.cell? ⟨b, o + k * 2 + 1, none⟩ = some (.slice ua un uc) ∧ Below w.heap.size w V) => AtF.be (w := w) (l := [(⟨b, o + k * 2, none⟩, .string X), (⟨b, o + k * 2 + 1, none⟩, .slice ua un uc)]) h
            refine wp_region_held_drew (S := (fun V => V.cell? ⟨b, o + k * 2, none⟩ = some (.string X) ∧ V.cell? ⟨b, o + k * 2 + 1, none⟩ = some (.slice ua un uc) ∧ Below w.heap.size w V)) (by kernel_rfl) ?_ (fun hHeld => ?_)
            · (try dsimp only); (first | assumption | exact hs | exact AtF.dr (w := w) (l := [(⟨b, o + k * 2, none⟩, .string X), (⟨b, o + k * 2 + 1, none⟩, .slice ua un uc)]) hs | exact AtF.dr (w := w) (l := [(⟨b, o + k * 2, none⟩, .string X), (⟨b, o + k * 2 + 1, none⟩, .slice ua un uc)]) (by assumption) | exact AtF.on (w := w) (l := [(⟨b, o + k * 2, none⟩, .string X), (⟨b, o + k * 2 + 1, none⟩, .slice ua un uc)]) (by assumption) (by assumption) | exact AtF.al (w := w) (l := [(⟨b, o + k * 2, none⟩, .string X), (⟨b, o + k * 2 + 1, none⟩, .slice ua un uc)]) (by assumption) _ | exact AtF.ald (w := w) (l := [(⟨b, o + k * 2, none⟩, .string X), (⟨b, o + k * 2 + 1, none⟩, .slice ua un uc)]) (by assumption) _ | exact AtF.al (w := w) (l := [(⟨b, o + k * 2, none⟩, .string X), (⟨b, o + k * 2 + 1, none⟩, .slice ua un uc)]) hs _ | exact AtF.ald (w := w) (l := [(⟨b, o + k * 2, none⟩, .string X), (⟨b, o + k * 2 + 1, none⟩, .slice ua un uc)]) hs _)
            refine heldY 0 27 ?_ _ rfl rfl (by kernel_rfl) (by kernel_rfl) (by kernel_rfl) (fun _ _ _ h => h) rfl (by assumption) ?_ ?_
            rotate_left
            · (intro w hSw; (try dsimp only at hSw); go_simp; (try with_reducible rfl))
            simp only [List.setIfInBounds_toArray, List.set_cons_zero, List.set_cons_succ]
            refine heldY 1 28 ?_ _ rfl rfl (by kernel_rfl) (by kernel_rfl) (by kernel_rfl) (fun _ _ _ h => h) rfl (by assumption) ?_ ?_
            rotate_left
            · (intro w hSw; (try dsimp only at hSw); go_simp; (try with_reducible rfl))
            simp only [List.setIfInBounds_toArray, List.set_cons_zero, List.set_cons_succ]
            refine heldY 2 29 ?_ _ rfl rfl (by kernel_rfl) (by kernel_rfl) (by kernel_rfl) (fun _ _ _ h => h) rfl (by assumption) ?_ ?_
            rotate_left
            · (intro w hSw; (try dsimp only at hSw); go_simp; (try with_reducible rfl))
            simp only [List.setIfInBounds_toArray, List.set_cons_zero, List.set_cons_succ]
            refine heldY 3 30 ?_ _ rfl rfl (by kernel_rfl) (by kernel_rfl) (by kernel_rfl) (fun _ _ _ h => h) rfl (by assumption) ?_ ?_
            rotate_left
            · (intro w hSw; (try dsimp only at hSw); go_simp; (try with_reducible rfl))
            simp only [List.setIfInBounds_toArray, List.set_cons_zero, List.set_cons_succ]
            refine heldY 4 31 ?_ _ rfl rfl (by kernel_rfl) (by kernel_rfl) (by kernel_rfl) (fun _ _ _ h => h) rfl (by assumption) ?_ ?_
            rotate_left
            · (intro w hSw; (try dsimp only at hSw); go_simp; (try with_reducible rfl))
            simp only [List.setIfInBounds_toArray, List.set_cons_zero, List.set_cons_succ]
            refine wpAnyH_ready (rs := [5]) (by kernel_rfl) (by simp) ?_
            refine AllReadyH.cons rfl (fun K hK => ?_) AllReadyH.nil
            go_simp
            first | (go_at_call 37; (with_reducible refine (TR _).mono ?_); rintro e w3 ⟨rfl, hb⟩) | (go_at_call 48; (with_reducible refine (NM _ (BE _ (by assumption))).mono ?_); rintro e w3 ⟨rfl, rfl⟩) | (go_at_call 49; (with_reducible refine (RI _ (BE _ (by assumption))).mono ?_); rintro e w3 ⟨rfl, hb⟩)
            refine hK.out _ _ ?_ (fun hHeld => ?_)
            · (try dsimp only); (first | assumption | exact hs | exact AtF.dr (w := w) (l := [(⟨b, o + k * 2, none⟩, .string X), (⟨b, o + k * 2 + 1, none⟩, .slice ua un uc)]) hs | exact AtF.dr (w := w) (l := [(⟨b, o + k * 2, none⟩, .string X), (⟨b, o + k * 2 + 1, none⟩, .slice ua un uc)]) (by assumption) | exact AtF.on (w := w) (l := [(⟨b, o + k * 2, none⟩, .string X), (⟨b, o + k * 2 + 1, none⟩, .slice ua un uc)]) (by assumption) (by assumption) | exact AtF.al (w := w) (l := [(⟨b, o + k * 2, none⟩, .string X), (⟨b, o + k * 2 + 1, none⟩, .slice ua un uc)]) (by assumption) _ | exact AtF.ald (w := w) (l := [(⟨b, o + k * 2, none⟩, .string X), (⟨b, o + k * 2 + 1, none⟩, .slice ua un uc)]) (by assumption) _ | exact AtF.al (w := w) (l := [(⟨b, o + k * 2, none⟩, .string X), (⟨b, o + k * 2 + 1, none⟩, .slice ua un uc)]) hs _ | exact AtF.ald (w := w) (l := [(⟨b, o + k * 2, none⟩, .string X), (⟨b, o + k * 2 + 1, none⟩, .slice ua un uc)]) hs _)
            clear hK K
            try simp only [Act.put, List.setIfInBounds_toArray, List.set_cons_zero, List.set_cons_succ]
            refine heldY 6 33 ?_ _ rfl rfl (by kernel_rfl) (by kernel_rfl) (by kernel_rfl) (fun _ _ _ h => h) rfl (by assumption) ?_ ?_
            rotate_left
            · (intro w hSw; (try dsimp only at hSw); go_simp; (try with_reducible rfl))
            simp only [List.setIfInBounds_toArray, List.set_cons_zero, List.set_cons_succ]
            refine heldY 7 34 ?_ _ rfl rfl (by kernel_rfl) (by kernel_rfl) (by kernel_rfl) (fun _ _ _ h => h) rfl (by assumption) ?_ ?_
            rotate_left
            · (intro w hSw; (try dsimp only at hSw); go_simp; (try with_reducible rfl))
            simp only [List.setIfInBounds_toArray, List.set_cons_zero, List.set_cons_succ]
            refine heldY 8 35 ?_ _ rfl rfl (by kernel_rfl) (by kernel_rfl) (by kernel_rfl) (fun _ _ _ h => h) rfl (by assumption) ?_ ?_
            rotate_left
            · (intro w hSw; (try dsimp only at hSw); go_simp; (try with_reducible rfl))
            simp only [List.setIfInBounds_toArray, List.set_cons_zero, List.set_cons_succ]
            refine heldY 9 36 ?_ _ rfl rfl (by kernel_rfl) (by kernel_rfl) (by kernel_rfl) (fun _ _ _ h => h) rfl (by assumption) ?_ ?_
            rotate_left
            · (intro w hSw; (try dsimp only at hSw); go_simp; (try with_reducible rfl))
            simp only [List.setIfInBounds_toArray, List.set_cons_zero, List.set_cons_succ]
            refine heldY 10 37 ?_ _ rfl rfl (by kernel_rfl) (by kernel_rfl) (by kernel_rfl) (fun _ _ _ h => h) rfl (by assumption) ?_ ?_
            rotate_left
            · (intro w hSw; (try dsimp only at hSw); go_simp; (try with_reducible rfl))
            simp only [List.setIfInBounds_toArray, List.set_cons_zero, List.set_cons_succ]
            refine heldY 11 38 ?_ _ rfl rfl (by kernel_rfl) (by kernel_rfl) (by kernel_rfl) (fun _ _ _ h => h) rfl (by assumption) ?_ ?_
            rotate_left
            · (intro w hSw; (try dsimp only at hSw); go_simp; (try with_reducible rfl))
            simp only [List.setIfInBounds_toArray, List.set_cons_zero, List.set_cons_succ]
            refine heldY 12 39 ?_ _ rfl rfl (by kernel_rfl) (by kernel_rfl) (by kernel_rfl) (fun _ _ _ h => h) rfl (by assumption) ?_ ?_
            rotate_left
            · (intro w hSw; (try dsimp only at hSw); go_simp; (try with_reducible rfl))
            simp only [List.setIfInBounds_toArray, List.set_cons_zero, List.set_cons_succ]
            refine wpAnyH_ready (rs := [13]) (by kernel_rfl) (by simp) ?_
            refine AllReadyH.cons rfl (fun K hK => ?_) AllReadyH.nil
            go_simp
            first | (go_at_call 37; (with_reducible refine (TR _).mono ?_); rintro e w3 ⟨rfl, hb⟩) | (go_at_call 48; (with_reducible refine (NM _ (BE _ (by assumption))).mono ?_); rintro e w3 ⟨rfl, rfl⟩) | (go_at_call 49; (with_reducible refine (RI _ (BE _ (by assumption))).mono ?_); rintro e w3 ⟨rfl, hb⟩)
            refine hK.out _ _ ?_ (fun hHeld => ?_)
            · (try dsimp only); (first | assumption | exact hs | exact AtF.dr (w := w) (l := [(⟨b, o + k * 2, none⟩, .string X), (⟨b, o + k * 2 + 1, none⟩, .slice ua un uc)]) hs | exact AtF.dr (w := w) (l := [(⟨b, o + k * 2, none⟩, .string X), (⟨b, o + k * 2 + 1, none⟩, .slice ua un uc)]) (by assumption) | exact AtF.on (w := w) (l := [(⟨b, o + k * 2, none⟩, .string X), (⟨b, o + k * 2 + 1, none⟩, .slice ua un uc)]) (by assumption) (by assumption) | exact AtF.al (w := w) (l := [(⟨b, o + k * 2, none⟩, .string X), (⟨b, o + k * 2 + 1, none⟩, .slice ua un uc)]) (by assumption) _ | exact AtF.ald (w := w) (l := [(⟨b, o + k * 2, none⟩, .string X), (⟨b, o + k * 2 + 1, none⟩, .slice ua un uc)]) (by assumption) _ | exact AtF.al (w := w) (l := [(⟨b, o + k * 2, none⟩, .string X), (⟨b, o + k * 2 + 1, none⟩, .slice ua un uc)]) hs _ | exact AtF.ald (w := w) (l := [(⟨b, o + k * 2, none⟩, .string X), (⟨b, o + k * 2 + 1, none⟩, .slice ua un uc)]) hs _)
            clear hK K
            try simp only [Act.put, List.setIfInBounds_toArray, List.set_cons_zero, List.set_cons_succ]
            refine heldY 14 41 ?_ _ rfl rfl (by kernel_rfl) (by kernel_rfl) (by kernel_rfl) (fun _ _ _ h => h) rfl (by assumption) ?_ ?_
            rotate_left
            · (intro w hSw; (try dsimp only at hSw); go_simp; (try with_reducible rfl))
            simp only [List.setIfInBounds_toArray, List.set_cons_zero, List.set_cons_succ]
            refine heldY 15 42 ?_ _ rfl rfl (by kernel_rfl) (by kernel_rfl) (by kernel_rfl) (fun _ _ _ h => h) rfl (by assumption) ?_ ?_
            rotate_left
            · (intro w hSw; (try dsimp only at hSw); go_simp; (try with_reducible rfl))
            simp only [List.setIfInBounds_toArray, List.set_cons_zero, List.set_cons_succ]
            refine heldY 16 43 ?_ _ rfl rfl (by kernel_rfl) (by kernel_rfl) (by kernel_rfl) (fun _ _ _ h => h) rfl (by assumption) ?_ ?_
            rotate_left
            · (intro w hSw; (try dsimp only at hSw); go_simp; (try with_reducible rfl))
            simp only [List.setIfInBounds_toArray, List.set_cons_zero, List.set_cons_succ]
            refine heldNo 17 44 rfl (by kernel_rfl) (by kernel_rfl) (by kernel_rfl) (fun _ _ _ h => h) rfl (by assumption) ?_
            simp only [List.setIfInBounds_toArray, List.set_cons_zero, List.set_cons_succ]
            refine heldNo 18 45 rfl (by kernel_rfl) (by kernel_rfl) (by kernel_rfl) (fun _ _ _ h => h) rfl (by assumption) ?_
            simp only [List.setIfInBounds_toArray, List.set_cons_zero, List.set_cons_succ]
            refine heldNo 19 46 rfl (by kernel_rfl) (by kernel_rfl) (by kernel_rfl) (fun _ _ _ h => h) rfl (by assumption) ?_
            simp only [List.setIfInBounds_toArray, List.set_cons_zero, List.set_cons_succ]
            refine heldNo 20 47 rfl (by kernel_rfl) (by kernel_rfl) (by kernel_rfl) (fun _ _ _ h => h) rfl (by assumption) ?_
            simp only [List.setIfInBounds_toArray, List.set_cons_zero, List.set_cons_succ]
            refine heldNo 21 48 rfl (by kernel_rfl) (by kernel_rfl) (by kernel_rfl) (fun _ _ _ h => h) rfl (by assumption) ?_
            simp only [List.setIfInBounds_toArray, List.set_cons_zero, List.set_cons_succ]
            refine heldNo 22 49 rfl (by kernel_rfl) (by kernel_rfl) (by kernel_rfl) (fun _ _ _ h => h) rfl (by assumption) ?_
            simp only [List.setIfInBounds_toArray, List.set_cons_zero, List.set_cons_succ]
            refine heldNo 23 50 rfl (by kernel_rfl) (by kernel_rfl) (by kernel_rfl) (fun _ _ _ h => h) rfl (by assumption) ?_
            simp only [List.setIfInBounds_toArray, List.set_cons_zero, List.set_cons_succ]
            refine heldY 24 51 ?_ _ rfl rfl (by kernel_rfl) (by kernel_rfl) (by kernel_rfl) (fun _ _ _ h => h) rfl (by assumption) ?_ ?_
            rotate_left
            · (intro w hSw; (try dsimp only at hSw); go_simp; (try with_reducible rfl))
            simp only [List.setIfInBounds_toArray, List.set_cons_zero, List.set_cons_succ]
            refine heldY 25 52 ?_ _ rfl rfl (by kernel_rfl) (by kernel_rfl) (by kernel_rfl) (fun _ _ _ h => h) rfl (by assumption) ?_ ?_
            rotate_left
            · (intro w hSw; (try dsimp only at hSw); go_simp; (try with_reducible rfl))
            simp only [List.setIfInBounds_toArray, List.set_cons_zero, List.set_cons_succ]
            refine heldNo 26 53 rfl (by kernel_rfl) (by kernel_rfl) (by kernel_rfl) (fun _ _ _ h => h) rfl (by assumption) ?_
            simp only [List.setIfInBounds_toArray, List.set_cons_zero, List.set_cons_succ]
            refine heldNo 27 54 rfl (by kernel_rfl) (by kernel_rfl) (by kernel_rfl) (fun _ _ _ h => h) rfl (by assumption) ?_
            simp only [List.setIfInBounds_toArray, List.set_cons_zero, List.set_cons_succ]
            refine heldNo 28 55 rfl (by kernel_rfl) (by kernel_rfl) (by kernel_rfl) (fun _ _ _ h => h) rfl (by assumption) ?_
            simp only [List.setIfInBounds_toArray, List.set_cons_zero, List.set_cons_succ]
            refine heldNo 29 56 rfl (by kernel_rfl) (by kernel_rfl) (by kernel_rfl) (fun _ _ _ h => h) rfl (by assumption) ?_
            simp only [List.setIfInBounds_toArray, List.set_cons_zero, List.set_cons_succ]
            refine heldNo 30 57 rfl (by kernel_rfl) (by kernel_rfl) (by kernel_rfl) (fun _ _ _ h => h) rfl (by assumption) ?_
            simp only [List.setIfInBounds_toArray, List.set_cons_zero, List.set_cons_succ]
            refine heldNo 31 58 rfl (by kernel_rfl) (by kernel_rfl) (by kernel_rfl) (fun _ _ _ h => h) rfl (by assumption) ?_
            simp only [List.setIfInBounds_toArray, List.set_cons_zero, List.set_cons_succ]
            refine heldNo 32 59 rfl (by kernel_rfl) (by kernel_rfl) (by kernel_rfl) (fun _ _ _ h => h) rfl (by assumption) ?_
            simp only [List.setIfInBounds_toArray, List.set_cons_zero, List.set_cons_succ]
            refine heldNo 33 60 rfl (by kernel_rfl) (by kernel_rfl) (by kernel_rfl) (fun _ _ _ h => h) rfl (by assumption) ?_
            simp only [List.setIfInBounds_toArray, List.set_cons_zero, List.set_cons_succ]
            refine heldNo 34 61 rfl (by kernel_rfl) (by kernel_rfl) (by kernel_rfl) (fun _ _ _ h => h) rfl (by assumption) ?_
            simp only [List.setIfInBounds_toArray, List.set_cons_zero, List.set_cons_succ]
            refine heldNo 35 62 rfl (by kernel_rfl) (by kernel_rfl) (by kernel_rfl) (fun _ _ _ h => h) rfl (by assumption) ?_
            simp only [List.setIfInBounds_toArray, List.set_cons_zero, List.set_cons_succ]
            refine heldNo 36 63 rfl (by kernel_rfl) (by kernel_rfl) (by kernel_rfl) (fun _ _ _ h => h) rfl (by assumption) ?_
            simp only [List.setIfInBounds_toArray, List.set_cons_zero, List.set_cons_succ]
            refine heldNo 37 64 rfl (by kernel_rfl) (by kernel_rfl) (by kernel_rfl) (fun _ _ _ h => h) rfl (by assumption) ?_
            simp only [List.setIfInBounds_toArray, List.set_cons_zero, List.set_cons_succ]
            refine heldNo 38 65 rfl (by kernel_rfl) (by kernel_rfl) (by kernel_rfl) (fun _ _ _ h => h) rfl (by assumption) ?_
            simp only [List.setIfInBounds_toArray, List.set_cons_zero, List.set_cons_succ]
            refine heldNo 39 66 rfl (by kernel_rfl) (by kernel_rfl) (by kernel_rfl) (fun _ _ _ h => h) rfl (by assumption) ?_
            simp only [List.setIfInBounds_toArray, List.set_cons_zero, List.set_cons_succ]
            refine heldNo 40 67 rfl (by kernel_rfl) (by kernel_rfl) (by kernel_rfl) (fun _ _ _ h => h) rfl (by assumption) ?_
            simp only [List.setIfInBounds_toArray, List.set_cons_zero, List.set_cons_succ]
            refine heldNo 41 68 rfl (by kernel_rfl) (by kernel_rfl) (by kernel_rfl) (fun _ _ _ h => h) rfl (by assumption) ?_
            simp only [List.setIfInBounds_toArray, List.set_cons_zero, List.set_cons_succ]
            refine heldY 42 69 ?_ _ rfl rfl (by kernel_rfl) (by kernel_rfl) (by kernel_rfl) (fun _ _ _ h => h) rfl (by assumption) ?_ ?_
            rotate_left
            · (intro w hSw; (try dsimp only at hSw); go_simp; (try with_reducible rfl))
            simp only [List.setIfInBounds_toArray, List.set_cons_zero, List.set_cons_succ]
            refine wpAnyH_done (by kernel_rfl) ?_ _
            have HW3 := Lib.hid (BE _ hHeld)
            clear hHeld
            go_wp2
            go_ret
            exact ⟨reti HF.out, HW3.out⟩
          · simp only [hn] at NM
            cases hr : riseB p.1.2
            · simp only [hr] at RI
              have HF := Lib.hid (HBAD.out k p HX.out (fun g => by have := g.1; rw [show p.1 = (p.1.1, p.1.2) from rfl] at this; rw [HR.out, ht, hn, hr] at this; simp at this))
              clear ht hn hr H HBAD HOK HC HS HI HX HR
              generalize bsT p.1.1 = X at *
              have hs := And.intro c0 (And.intro c1 hB)
              go_wp2
              have BE := fun (V : World) (h : V.cell? ⟨b, o + k * 2, none⟩ = some (.string X) ∧ V.cell? ⟨b, o + k * 2 + 1, none⟩ = some (.slice ua un uc) ∧ Below w.heap.size w V) => AtF.be (w := w) (l := [(⟨b, o + k * 2, none⟩, .string X), (⟨b, o + k * 2 + 1, none⟩, .slice ua un uc)]) h
              refine wp_region_held_drew (S := (fun V => V.cell? ⟨b, o + k * 2, none⟩ = some (.string X) ∧ V.cell? ⟨b, o + k * 2 + 1, none⟩ = some (.slice ua un uc) ∧ Below w.heap.size w V)) (by kernel_rfl) ?_ (fun hHeld => ?_)
              · (try dsimp only); (first | assumption | exact hs | exact AtF.dr (w := w) (l := [(⟨b, o + k * 2, none⟩, .string X), (⟨b, o + k * 2 + 1, none⟩, .slice ua un uc)]) hs | exact AtF.dr (w := w) (l := [(⟨b, o + k * 2, none⟩, .string X), (⟨b, o + k * 2 + 1, none⟩, .slice ua un uc)]) (by assumption) | exact AtF.on (w := w) (l := [(⟨b, o + k * 2, none⟩, .string X), (⟨b, o + k * 2 + 1, none⟩, .slice ua un uc)]) (by assumption) (by assumption) | exact AtF.al (w := w) (l := [(⟨b, o + k * 2, none⟩, .string X), (⟨b, o + k * 2 + 1, none⟩, .slice ua un uc)]) (by assumption) _ | exact AtF.ald (w := w) (l := [(⟨b, o + k * 2, none⟩, .string X), (⟨b, o + k * 2 + 1, none⟩, .slice ua un uc)]) (by assumption) _ | exact AtF.al (w := w) (l := [(⟨b, o + k * 2, none⟩, .string X), (⟨b, o + k * 2 + 1, none⟩, .slice ua un uc)]) hs _ | exact AtF.ald (w := w) (l := [(⟨b, o + k * 2, none⟩, .string X), (⟨b, o + k * 2 + 1, none⟩, .slice ua un uc)]) hs _)
              refine heldY 0 27 ?_ _ rfl rfl (by kernel_rfl) (by kernel_rfl) (by kernel_rfl) (fun _ _ _ h => h) rfl (by assumption) ?_ ?_
              rotate_left
              · (intro w hSw; (try dsimp only at hSw); go_simp; (try with_reducible rfl))
              simp only [List.setIfInBounds_toArray, List.set_cons_zero, List.set_cons_succ]
              refine heldY 1 28 ?_ _ rfl rfl (by kernel_rfl) (by kernel_rfl) (by kernel_rfl) (fun _ _ _ h => h) rfl (by assumption) ?_ ?_
              rotate_left
              · (intro w hSw; (try dsimp only at hSw); go_simp; (try with_reducible rfl))
              simp only [List.setIfInBounds_toArray, List.set_cons_zero, List.set_cons_succ]
              refine heldY 2 29 ?_ _ rfl rfl (by kernel_rfl) (by kernel_rfl) (by kernel_rfl) (fun _ _ _ h => h) rfl (by assumption) ?_ ?_
              rotate_left
              · (intro w hSw; (try dsimp only at hSw); go_simp; (try with_reducible rfl))
              simp only [List.setIfInBounds_toArray, List.set_cons_zero, List.set_cons_succ]
              refine heldY 3 30 ?_ _ rfl rfl (by kernel_rfl) (by kernel_rfl) (by kernel_rfl) (fun _ _ _ h => h) rfl (by assumption) ?_ ?_
              rotate_left
              · (intro w hSw; (try dsimp only at hSw); go_simp; (try with_reducible rfl))
              simp only [List.setIfInBounds_toArray, List.set_cons_zero, List.set_cons_succ]
              refine heldY 4 31 ?_ _ rfl rfl (by kernel_rfl) (by kernel_rfl) (by kernel_rfl) (fun _ _ _ h => h) rfl (by assumption) ?_ ?_
              rotate_left
              · (intro w hSw; (try dsimp only at hSw); go_simp; (try with_reducible rfl))
              simp only [List.setIfInBounds_toArray, List.set_cons_zero, List.set_cons_succ]
              refine wpAnyH_ready (rs := [5]) (by kernel_rfl) (by simp) ?_
              refine AllReadyH.cons rfl (fun K hK => ?_) AllReadyH.nil
              go_simp
              first | (go_at_call 37; (with_reducible refine (TR _).mono ?_); rintro e w3 ⟨rfl, hb⟩) | (go_at_call 48; (with_reducible refine (NM _ (BE _ (by assumption))).mono ?_); rintro e w3 ⟨rfl, rfl⟩) | (go_at_call 49; (with_reducible refine (RI _ (BE _ (by assumption))).mono ?_); rintro e w3 ⟨rfl, hb⟩)
              refine hK.out _ _ ?_ (fun hHeld => ?_)
              · (try dsimp only); (first | assumption | exact hs | exact AtF.dr (w := w) (l := [(⟨b, o + k * 2, none⟩, .string X), (⟨b, o + k * 2 + 1, none⟩, .slice ua un uc)]) hs | exact AtF.dr (w := w) (l := [(⟨b, o + k * 2, none⟩, .string X), (⟨b, o + k * 2 + 1, none⟩, .slice ua un uc)]) (by assumption) | exact AtF.on (w := w) (l := [(⟨b, o + k * 2, none⟩, .string X), (⟨b, o + k * 2 + 1, none⟩, .slice ua un uc)]) (by assumption) (by assumption) | exact AtF.al (w := w) (l := [(⟨b, o + k * 2, none⟩, .string X), (⟨b, o + k * 2 + 1, none⟩, .slice ua un uc)]) (by assumption) _ | exact AtF.ald (w := w) (l := [(⟨b, o + k * 2, none⟩, .string X), (⟨b, o + k * 2 + 1, none⟩, .slice ua un uc)]) (by assumption) _ | exact AtF.al (w := w) (l := [(⟨b, o + k * 2, none⟩, .string X), (⟨b, o + k * 2 + 1, none⟩, .slice ua un uc)]) hs _ | exact AtF.ald (w := w) (l := [(⟨b, o + k * 2, none⟩, .string X), (⟨b, o + k * 2 + 1, none⟩, .slice ua un uc)]) hs _)
              clear hK K
              try simp only [Act.put, List.setIfInBounds_toArray, List.set_cons_zero, List.set_cons_succ]
              refine heldY 6 33 ?_ _ rfl rfl (by kernel_rfl) (by kernel_rfl) (by kernel_rfl) (fun _ _ _ h => h) rfl (by assumption) ?_ ?_
              rotate_left
              · (intro w hSw; (try dsimp only at hSw); go_simp; (try with_reducible rfl))
              simp only [List.setIfInBounds_toArray, List.set_cons_zero, List.set_cons_succ]
              refine heldY 7 34 ?_ _ rfl rfl (by kernel_rfl) (by kernel_rfl) (by kernel_rfl) (fun _ _ _ h => h) rfl (by assumption) ?_ ?_
              rotate_left
              · (intro w hSw; (try dsimp only at hSw); go_simp; (try with_reducible rfl))
              simp only [List.setIfInBounds_toArray, List.set_cons_zero, List.set_cons_succ]
              refine heldY 8 35 ?_ _ rfl rfl (by kernel_rfl) (by kernel_rfl) (by kernel_rfl) (fun _ _ _ h => h) rfl (by assumption) ?_ ?_
              rotate_left
              · (intro w hSw; (try dsimp only at hSw); go_simp; (try with_reducible rfl))
              simp only [List.setIfInBounds_toArray, List.set_cons_zero, List.set_cons_succ]
              refine heldY 9 36 ?_ _ rfl rfl (by kernel_rfl) (by kernel_rfl) (by kernel_rfl) (fun _ _ _ h => h) rfl (by assumption) ?_ ?_
              rotate_left
              · (intro w hSw; (try dsimp only at hSw); go_simp; (try with_reducible rfl))
              simp only [List.setIfInBounds_toArray, List.set_cons_zero, List.set_cons_succ]
              refine heldY 10 37 ?_ _ rfl rfl (by kernel_rfl) (by kernel_rfl) (by kernel_rfl) (fun _ _ _ h => h) rfl (by assumption) ?_ ?_
              rotate_left
              · (intro w hSw; (try dsimp only at hSw); go_simp; (try with_reducible rfl))
              simp only [List.setIfInBounds_toArray, List.set_cons_zero, List.set_cons_succ]
              refine heldY 11 38 ?_ _ rfl rfl (by kernel_rfl) (by kernel_rfl) (by kernel_rfl) (fun _ _ _ h => h) rfl (by assumption) ?_ ?_
              rotate_left
              · (intro w hSw; (try dsimp only at hSw); go_simp; (try with_reducible rfl))
              simp only [List.setIfInBounds_toArray, List.set_cons_zero, List.set_cons_succ]
              refine heldY 12 39 ?_ _ rfl rfl (by kernel_rfl) (by kernel_rfl) (by kernel_rfl) (fun _ _ _ h => h) rfl (by assumption) ?_ ?_
              rotate_left
              · (intro w hSw; (try dsimp only at hSw); go_simp; (try with_reducible rfl))
              simp only [List.setIfInBounds_toArray, List.set_cons_zero, List.set_cons_succ]
              refine wpAnyH_ready (rs := [13]) (by kernel_rfl) (by simp) ?_
              refine AllReadyH.cons rfl (fun K hK => ?_) AllReadyH.nil
              go_simp
              first | (go_at_call 37; (with_reducible refine (TR _).mono ?_); rintro e w3 ⟨rfl, hb⟩) | (go_at_call 48; (with_reducible refine (NM _ (BE _ (by assumption))).mono ?_); rintro e w3 ⟨rfl, rfl⟩) | (go_at_call 49; (with_reducible refine (RI _ (BE _ (by assumption))).mono ?_); rintro e w3 ⟨rfl, hb⟩)
              refine hK.out _ _ ?_ (fun hHeld => ?_)
              · (try dsimp only); (first | assumption | exact hs | exact AtF.dr (w := w) (l := [(⟨b, o + k * 2, none⟩, .string X), (⟨b, o + k * 2 + 1, none⟩, .slice ua un uc)]) hs | exact AtF.dr (w := w) (l := [(⟨b, o + k * 2, none⟩, .string X), (⟨b, o + k * 2 + 1, none⟩, .slice ua un uc)]) (by assumption) | exact AtF.on (w := w) (l := [(⟨b, o + k * 2, none⟩, .string X), (⟨b, o + k * 2 + 1, none⟩, .slice ua un uc)]) (by assumption) (by assumption) | exact AtF.al (w := w) (l := [(⟨b, o + k * 2, none⟩, .string X), (⟨b, o + k * 2 + 1, none⟩, .slice ua un uc)]) (by assumption) _ | exact AtF.ald (w := w) (l := [(⟨b, o + k * 2, none⟩, .string X), (⟨b, o + k * 2 + 1, none⟩, .slice ua un uc)]) (by assumption) _ | exact AtF.al (w := w) (l := [(⟨b, o + k * 2, none⟩, .string X), (⟨b, o + k * 2 + 1, none⟩, .slice ua un uc)]) hs _ | exact AtF.ald (w := w) (l := [(⟨b, o + k * 2, none⟩, .string X), (⟨b, o + k * 2 + 1, none⟩, .slice ua un uc)]) hs _)
              clear hK K
              try simp only [Act.put, List.setIfInBounds_toArray, List.set_cons_zero, List.set_cons_succ]
              refine heldY 14 41 ?_ _ rfl rfl (by kernel_rfl) (by kernel_rfl) (by kernel_rfl) (fun _ _ _ h => h) rfl (by assumption) ?_ ?_
              rotate_left
              · (intro w hSw; (try dsimp only at hSw); go_simp; (try with_reducible rfl))
              simp only [List.setIfInBounds_toArray, List.set_cons_zero, List.set_cons_succ]
              refine heldY 15 42 ?_ _ rfl rfl (by kernel_rfl) (by kernel_rfl) (by kernel_rfl) (fun _ _ _ h => h) rfl (by assumption) ?_ ?_
              rotate_left
              · (intro w hSw; (try dsimp only at hSw); go_simp; (try with_reducible rfl))
              simp only [List.setIfInBounds_toArray, List.set_cons_zero, List.set_cons_succ]
              refine heldY 16 43 ?_ _ rfl rfl (by kernel_rfl) (by kernel_rfl) (by kernel_rfl) (fun _ _ _ h => h) rfl (by assumption) ?_ ?_
              rotate_left
              · (intro w hSw; (try dsimp only at hSw); go_simp; (try with_reducible rfl))
              simp only [List.setIfInBounds_toArray, List.set_cons_zero, List.set_cons_succ]
              refine heldY 17 44 ?_ _ rfl rfl (by kernel_rfl) (by kernel_rfl) (by kernel_rfl) (fun _ _ _ h => h) rfl (by assumption) ?_ ?_
              rotate_left
              · (intro w hSw; (try dsimp only at hSw); go_simp; (try with_reducible rfl))
              simp only [List.setIfInBounds_toArray, List.set_cons_zero, List.set_cons_succ]
              refine heldY 18 45 ?_ _ rfl rfl (by kernel_rfl) (by kernel_rfl) (by kernel_rfl) (fun _ _ _ h => h) rfl (by assumption) ?_ ?_
              rotate_left
              · (intro w hSw; (try dsimp only at hSw); go_simp; (try with_reducible rfl))
              simp only [List.setIfInBounds_toArray, List.set_cons_zero, List.set_cons_succ]
              refine heldY 19 46 ?_ _ rfl rfl (by kernel_rfl) (by kernel_rfl) (by kernel_rfl) (fun _ _ _ h => h) rfl (by assumption) ?_ ?_
              rotate_left
              · (intro w hSw; (try dsimp only at hSw); go_simp; (try with_reducible rfl))
              simp only [List.setIfInBounds_toArray, List.set_cons_zero, List.set_cons_succ]
              refine heldY 20 47 ?_ _ rfl rfl (by kernel_rfl) (by kernel_rfl) (by kernel_rfl) (fun _ _ _ h => h) rfl (by assumption) ?_ ?_
              rotate_left
              · (intro w hSw; (try dsimp only at hSw); go_simp; (try with_reducible rfl))
              simp only [List.setIfInBounds_toArray, List.set_cons_zero, List.set_cons_succ]
              refine heldY 21 48 ?_ _ rfl rfl (by kernel_rfl) (by kernel_rfl) (by kernel_rfl) (fun _ _ _ h => h) rfl (by assumption) ?_ ?_
              rotate_left
              · (intro w hSw; (try dsimp only at hSw); go_simp; (try with_reducible rfl))
              simp only [List.setIfInBounds_toArray, List.set_cons_zero, List.set_cons_succ]
              refine wpAnyH_ready (rs := [22]) (by kernel_rfl) (by simp) ?_
              refine AllReadyH.cons rfl (fun K hK => ?_) AllReadyH.nil
              go_simp
              first | (go_at_call 37; (with_reducible refine (TR _).mono ?_); rintro e w3 ⟨rfl, hb⟩) | (go_at_call 48; (with_reducible refine (NM _ (BE _ (by assumption))).mono ?_); rintro e w3 ⟨rfl, rfl⟩) | (go_at_call 49; (with_reducible refine (RI _ (BE _ (by assumption))).mono ?_); rintro e w3 ⟨rfl, hb⟩)
              refine hK.out _ _ ?_ (fun hHeld => ?_)
              · (try dsimp only); (first | assumption | exact hs | exact AtF.dr (w := w) (l := [(⟨b, o + k * 2, none⟩, .string X), (⟨b, o + k * 2 + 1, none⟩, .slice ua un uc)]) hs | exact AtF.dr (w := w) (l := [(⟨b, o + k * 2, none⟩, .string X), (⟨b, o + k * 2 + 1, none⟩, .slice ua un uc)]) (by assumption) | exact AtF.on (w := w) (l := [(⟨b, o + k * 2, none⟩, .string X), (⟨b, o + k * 2 + 1, none⟩, .slice ua un uc)]) (by assumption) (by assumption) | exact AtF.al (w := w) (l := [(⟨b, o + k * 2, none⟩, .string X), (⟨b, o + k * 2 + 1, none⟩, .slice ua un uc)]) (by assumption) _ | exact AtF.ald (w := w) (l := [(⟨b, o + k * 2, none⟩, .string X), (⟨b, o + k * 2 + 1, none⟩, .slice ua un uc)]) (by assumption) _ | exact AtF.al (w := w) (l := [(⟨b, o + k * 2, none⟩, .string X), (⟨b, o + k * 2 + 1, none⟩, .slice ua un uc)]) hs _ | exact AtF.ald (w := w) (l := [(⟨b, o + k * 2, none⟩, .string X), (⟨b, o + k * 2 + 1, none⟩, .slice ua un uc)]) hs _)
              clear hK K
              try simp only [Act.put, List.setIfInBounds_toArray, List.set_cons_zero, List.set_cons_succ]
              refine heldY 23 50 ?_ _ rfl rfl (by kernel_rfl) (by kernel_rfl) (by kernel_rfl) (fun _ _ _ h => h) rfl (by assumption) ?_ ?_
              rotate_left
              · (intro w hSw; (try dsimp only at hSw); go_simp; (try with_reducible rfl))
              simp only [List.setIfInBounds_toArray, List.set_cons_zero, List.set_cons_succ]
              refine heldY 24 51 ?_ _ rfl rfl (by kernel_rfl) (by kernel_rfl) (by kernel_rfl) (fun _ _ _ h => h) rfl (by assumption) ?_ ?_
              rotate_left
              · (intro w hSw; (try dsimp only at hSw); go_simp; (try with_reducible rfl))
              simp only [List.setIfInBounds_toArray, List.set_cons_zero, List.set_cons_succ]
              refine heldY 25 52 ?_ _ rfl rfl (by kernel_rfl) (by kernel_rfl) (by kernel_rfl) (fun _ _ _ h => h) rfl (by assumption) ?_ ?_
              rotate_left
              · (intro w hSw; (try dsimp only at hSw); go_simp; (try with_reducible rfl))
              simp only [List.setIfInBounds_toArray, List.set_cons_zero, List.set_cons_succ]
              refine heldNo 26 53 rfl (by kernel_rfl) (by kernel_rfl) (by kernel_rfl) (fun _ _ _ h => h) rfl (by assumption) ?_
              simp only [List.setIfInBounds_toArray, List.set_cons_zero, List.set_cons_succ]
              refine heldNo 27 54 rfl (by kernel_rfl) (by kernel_rfl) (by kernel_rfl) (fun _ _ _ h => h) rfl (by assumption) ?_
              simp only [List.setIfInBounds_toArray, List.set_cons_zero, List.set_cons_succ]
              refine heldNo 28 55 rfl (by kernel_rfl) (by kernel_rfl) (by kernel_rfl) (fun _ _ _ h => h) rfl (by assumption) ?_
              simp only [List.setIfInBounds_toArray, List.set_cons_zero, List.set_cons_succ]
              refine heldNo 29 56 rfl (by kernel_rfl) (by kernel_rfl) (by kernel_rfl) (fun _ _ _ h => h) rfl (by assumption) ?_
              simp only [List.setIfInBounds_toArray, List.set_cons_zero, List.set_cons_succ]
              refine heldNo 30 57 rfl (by kernel_rfl) (by kernel_rfl) (by kernel_rfl) (fun _ _ _ h => h) rfl (by assumption) ?_
              simp only [List.setIfInBounds_toArray, List.set_cons_zero, List.set_cons_succ]
              refine heldNo 31 58 rfl (by kernel_rfl) (by kernel_rfl) (by kernel_rfl) (fun _ _ _ h => h) rfl (by assumption) ?_
              simp only [List.setIfInBounds_toArray, List.set_cons_zero, List.set_cons_succ]
              refine heldNo 32 59 rfl (by kernel_rfl) (by kernel_rfl) (by kernel_rfl) (fun _ _ _ h => h) rfl (by assumption) ?_
              simp only [List.setIfInBounds_toArray, List.set_cons_zero, List.set_cons_succ]
              refine heldNo 33 60 rfl (by kernel_rfl) (by kernel_rfl) (by kernel_rfl) (fun _ _ _ h => h) rfl (by assumption) ?_
              simp only [List.setIfInBounds_toArray, List.set_cons_zero, List.set_cons_succ]
              refine heldNo 34 61 rfl (by kernel_rfl) (by kernel_rfl) (by kernel_rfl) (fun _ _ _ h => h) rfl (by assumption) ?_
              simp only [List.setIfInBounds_toArray, List.set_cons_zero, List.set_cons_succ]
              refine heldNo 35 62 rfl (by kernel_rfl) (by kernel_rfl) (by kernel_rfl) (fun _ _ _ h => h) rfl (by assumption) ?_
              simp only [List.setIfInBounds_toArray, List.set_cons_zero, List.set_cons_succ]
              refine heldNo 36 63 rfl (by kernel_rfl) (by kernel_rfl) (by kernel_rfl) (fun _ _ _ h => h) rfl (by assumption) ?_
              simp only [List.setIfInBounds_toArray, List.set_cons_zero, List.set_cons_succ]
              refine heldNo 37 64 rfl (by kernel_rfl) (by kernel_rfl) (by kernel_rfl) (fun _ _ _ h => h) rfl (by assumption) ?_
              simp only [List.setIfInBounds_toArray, List.set_cons_zero, List.set_cons_succ]
              refine heldNo 38 65 rfl (by kernel_rfl) (by kernel_rfl) (by kernel_rfl) (fun _ _ _ h => h) rfl (by assumption) ?_
              simp only [List.setIfInBounds_toArray, List.set_cons_zero, List.set_cons_succ]
              refine heldNo 39 66 rfl (by kernel_rfl) (by kernel_rfl) (by kernel_rfl) (fun _ _ _ h => h) rfl (by assumption) ?_
              simp only [List.setIfInBounds_toArray, List.set_cons_zero, List.set_cons_succ]
              refine heldNo 40 67 rfl (by kernel_rfl) (by kernel_rfl) (by kernel_rfl) (fun _ _ _ h => h) rfl (by assumption) ?_
              simp only [List.setIfInBounds_toArray, List.set_cons_zero, List.set_cons_succ]
              refine heldNo 41 68 rfl (by kernel_rfl) (by kernel_rfl) (by kernel_rfl) (fun _ _ _ h => h) rfl (by assumption) ?_
              simp only [List.setIfInBounds_toArray, List.set_cons_zero, List.set_cons_succ]
              refine heldY 42 69 ?_ _ rfl rfl (by kernel_rfl) (by kernel_rfl) (by kernel_rfl) (fun _ _ _ h => h) rfl (by assumption) ?_ ?_
              rotate_left
              · (intro w hSw; (try dsimp only at hSw); go_simp; (try with_reducible rfl))
              simp only [List.setIfInBounds_toArray, List.set_cons_zero, List.set_cons_succ]
              refine wpAnyH_done (by kernel_rfl) ?_ _
              have HW3 := Lib.hid (BE _ hHeld)
              clear hHeld
              go_wp2
              go_ret
              exact ⟨reti HF.out, HW3.out⟩
            · simp only [hr] at RI
              have hq : rightF p.1 = true := by rw [show p.1 = (p.1.1, p.1.2) from rfl, HR.out, ht, hn, hr]; rfl
              by_cases hk0 : 0 < k
              · obtain ⟨r, hr2⟩ : ∃ r, L[k - 1]? = some r := ⟨_, List.getElem?_eq_getElem (by rw [HN.out]; omega)⟩
                obtain ⟨e0, e1⟩ := HC.out (k - 1) r hr2
                rw [← HB.out.cell (p := ⟨b, o + (k - 1) * 2, none⟩) hbw] at e0
                have hls := lessT (bsT r.1.1) (bsT p.1.1)
                rw [bytesOf, bytesOf] at hls
                have HBADk : Hid (decide (r.1.1 < p.1.1) = false → (1 : Int) = Z) := Lib.hid (fun g => HBAD.out k p HX.out (fun q => by rw [decide_eq_true (q.2 r.1 hk0 (HAT.out _ _ hr2))] at g; cases g))
                have HNEXT : Hid (decide (r.1.1 < p.1.1) = true → ∀ (j : Nat) u, j < k + 1 → L[j]? = some u → stepF (L.map (·.1)) j u.1) := Lib.hid (fun g j u hj hu => by
                  by_cases ej : j = k
                  · subst ej
                    rw [HX.out] at hu; cases hu
                    exact ⟨hq, fun u h1 h2 => by rw [HAT.out _ _ hr2] at h2; cases h2; exact of_decide_eq_true g⟩
                  · exact H.out j u (by omega) hu)
                generalize decide (r.1.1 < p.1.1) = q at *
                clear hq ht hn hr H HBAD HC HS HI HX HR hr2 e1
                generalize bsT p.1.1 = X at *
                generalize bsT r.1.1 = X' at *
                have hs := And.intro c0 (And.intro c1 (And.intro e0 hB))
                have hd : decide ((0 : Int) < (k : Int)) = true := decide_eq_true (by omega)
                have hk1 : (1 : Int) ≤ (k : Int) := by omega
                have i0 : (0 : Int) ≤ (k : Int) - 1 := by omega
                have i1 : (k : Int) - 1 < (n : Int) := by omega
                go_wp2
                have i2 : ((k : Int) - 1).toNat = k - 1 := by omega
                have i3 : IntKind.i64.wrap ((k : Int) - 1) = (k : Int) - 1 := IntWalk.i64_in _ (by omega)
                have BE := fun (V : World) (h : V.cell? ⟨b, o + k * 2, none⟩ = some (.string X) ∧ V.cell? ⟨b, o + k * 2 + 1, none⟩ = some (.slice ua un uc) ∧ V.cell? ⟨b, o + (k - 1) * 2, none⟩ = some (.string X') ∧ Below w.heap.size w V) => AtF.be (w := w) (l := [(⟨b, o + k * 2, none⟩, .string X), (⟨b, o + k * 2 + 1, none⟩, .slice ua un uc), (⟨b, o + (k - 1) * 2, none⟩, .string X')]) h
                refine wp_region_held_drew (S := (fun V => V.cell? ⟨b, o + k * 2, none⟩ = some (.string X) ∧ V.cell? ⟨b, o + k * 2 + 1, none⟩ = some (.slice ua un uc) ∧ V.cell? ⟨b, o + (k - 1) * 2, none⟩ = some (.string X') ∧ Below w.heap.size w V)) (by kernel_rfl) ?_ (fun hHeld => ?_)
                · (try dsimp only); (first | assumption | exact hs | exact AtF.dr (w := w) (l := [(⟨b, o + k * 2, none⟩, .string X), (⟨b, o + k * 2 + 1, none⟩, .slice ua un uc), (⟨b, o + (k - 1) * 2, none⟩, .string X')]) hs | exact AtF.dr (w := w) (l := [(⟨b, o + k * 2, none⟩, .string X), (⟨b, o + k * 2 + 1, none⟩, .slice ua un uc), (⟨b, o + (k - 1) * 2, none⟩, .string X')]) (by assumption) | exact AtF.on (w := w) (l := [(⟨b, o + k * 2, none⟩, .string X), (⟨b, o + k * 2 + 1, none⟩, .slice ua un uc), (⟨b, o + (k - 1) * 2, none⟩, .string X')]) (by assumption) (by assumption) | exact AtF.al (w := w) (l := [(⟨b, o + k * 2, none⟩, .string X), (⟨b, o + k * 2 + 1, none⟩, .slice ua un uc), (⟨b, o + (k - 1) * 2, none⟩, .string X')]) (by assumption) _ | exact AtF.ald (w := w) (l := [(⟨b, o + k * 2, none⟩, .string X), (⟨b, o + k * 2 + 1, none⟩, .slice ua un uc), (⟨b, o + (k - 1) * 2, none⟩, .string X')]) (by assumption) _ | exact AtF.al (w := w) (l := [(⟨b, o + k * 2, none⟩, .string X), (⟨b, o + k * 2 + 1, none⟩, .slice ua un uc), (⟨b, o + (k - 1) * 2, none⟩, .string X')]) hs _ | exact AtF.ald (w := w) (l := [(⟨b, o + k * 2, none⟩, .string X), (⟨b, o + k * 2 + 1, none⟩, .slice ua un uc), (⟨b, o + (k - 1) * 2, none⟩, .string X')]) hs _)
                refine heldY 0 27 ?_ _ rfl rfl (by kernel_rfl) (by kernel_rfl) (by kernel_rfl) (fun _ _ _ h => h) rfl (by assumption) ?_ ?_
                rotate_left
                · (intro w hSw; (try dsimp only at hSw); go_simp; (try with_reducible rfl))
                simp only [List.setIfInBounds_toArray, List.set_cons_zero, List.set_cons_succ]
                refine heldY 1 28 ?_ _ rfl rfl (by kernel_rfl) (by kernel_rfl) (by kernel_rfl) (fun _ _ _ h => h) rfl (by assumption) ?_ ?_
                rotate_left
                · (intro w hSw; (try dsimp only at hSw); go_simp; (try with_reducible rfl))
                simp only [List.setIfInBounds_toArray, List.set_cons_zero, List.set_cons_succ]
                refine heldY 2 29 ?_ _ rfl rfl (by kernel_rfl) (by kernel_rfl) (by kernel_rfl) (fun _ _ _ h => h) rfl (by assumption) ?_ ?_
                rotate_left
                · (intro w hSw; (try dsimp only at hSw); go_simp; (try with_reducible rfl))
                simp only [List.setIfInBounds_toArray, List.set_cons_zero, List.set_cons_succ]
                refine heldY 3 30 ?_ _ rfl rfl (by kernel_rfl) (by kernel_rfl) (by kernel_rfl) (fun _ _ _ h => h) rfl (by assumption) ?_ ?_
                rotate_left
                · (intro w hSw; (try dsimp only at hSw); go_simp; (try with_reducible rfl))
                simp only [List.setIfInBounds_toArray, List.set_cons_zero, List.set_cons_succ]
                refine heldY 4 31 ?_ _ rfl rfl (by kernel_rfl) (by kernel_rfl) (by kernel_rfl) (fun _ _ _ h => h) rfl (by assumption) ?_ ?_
                rotate_left
                · (intro w hSw; (try dsimp only at hSw); go_simp; (try with_reducible rfl))
                simp only [List.setIfInBounds_toArray, List.set_cons_zero, List.set_cons_succ]
                refine wpAnyH_ready (rs := [5]) (by kernel_rfl) (by simp) ?_
                refine AllReadyH.cons rfl (fun K hK => ?_) AllReadyH.nil
                go_simp
                first | (go_at_call 37; (with_reducible refine (TR _).mono ?_); rintro e w3 ⟨rfl, hb⟩) | (go_at_call 48; (with_reducible refine (NM _ (BE _ (by assumption))).mono ?_); rintro e w3 ⟨rfl, rfl⟩) | (go_at_call 49; (with_reducible refine (RI _ (BE _ (by assumption))).mono ?_); rintro e w3 ⟨rfl, hb⟩)
                refine hK.out _ _ ?_ (fun hHeld => ?_)
                · (try dsimp only); (first | assumption | exact hs | exact AtF.dr (w := w) (l := [(⟨b, o + k * 2, none⟩, .string X), (⟨b, o + k * 2 + 1, none⟩, .slice ua un uc), (⟨b, o + (k - 1) * 2, none⟩, .string X')]) hs | exact AtF.dr (w := w) (l := [(⟨b, o + k * 2, none⟩, .string X), (⟨b, o + k * 2 + 1, none⟩, .slice ua un uc), (⟨b, o + (k - 1) * 2, none⟩, .string X')]) (by assumption) | exact AtF.on (w := w) (l := [(⟨b, o + k * 2, none⟩, .string X), (⟨b, o + k * 2 + 1, none⟩, .slice ua un uc), (⟨b, o + (k - 1) * 2, none⟩, .string X')]) (by assumption) (by assumption) | exact AtF.al (w := w) (l := [(⟨b, o + k * 2, none⟩, .string X), (⟨b, o + k * 2 + 1, none⟩, .slice ua un uc), (⟨b, o + (k - 1) * 2, none⟩, .string X')]) (by assumption) _ | exact AtF.ald (w := w) (l := [(⟨b, o + k * 2, none⟩, .string X), (⟨b, o + k * 2 + 1, none⟩, .slice ua un uc), (⟨b, o + (k - 1) * 2, none⟩, .string X')]) (by assumption) _ | exact AtF.al (w := w) (l := [(⟨b, o + k * 2, none⟩, .string X), (⟨b, o + k * 2 + 1, none⟩, .slice ua un uc), (⟨b, o + (k - 1) * 2, none⟩, .string X')]) hs _ | exact AtF.ald (w := w) (l := [(⟨b, o + k * 2, none⟩, .string X), (⟨b, o + k * 2 + 1, none⟩, .slice ua un uc), (⟨b, o + (k - 1) * 2, none⟩, .string X')]) hs _)
                clear hK K
                try simp only [Act.put, List.setIfInBounds_toArray, List.set_cons_zero, List.set_cons_succ]
                refine heldY 6 33 ?_ _ rfl rfl (by kernel_rfl) (by kernel_rfl) (by kernel_rfl) (fun _ _ _ h => h) rfl (by assumption) ?_ ?_
                rotate_left
                · (intro w hSw; (try dsimp only at hSw); go_simp; (try with_reducible rfl))
                simp only [List.setIfInBounds_toArray, List.set_cons_zero, List.set_cons_succ]
                refine heldY 7 34 ?_ _ rfl rfl (by kernel_rfl) (by kernel_rfl) (by kernel_rfl) (fun _ _ _ h => h) rfl (by assumption) ?_ ?_
                rotate_left
                · (intro w hSw; (try dsimp only at hSw); go_simp; (try with_reducible rfl))
                simp only [List.setIfInBounds_toArray, List.set_cons_zero, List.set_cons_succ]
                refine heldY 8 35 ?_ _ rfl rfl (by kernel_rfl) (by kernel_rfl) (by kernel_rfl) (fun _ _ _ h => h) rfl (by assumption) ?_ ?_
                rotate_left
                · (intro w hSw; (try dsimp only at hSw); go_simp; (try with_reducible rfl))
                simp only [List.setIfInBounds_toArray, List.set_cons_zero, List.set_cons_succ]
                refine heldY 9 36 ?_ _ rfl rfl (by kernel_rfl) (by kernel_rfl) (by kernel_rfl) (fun _ _ _ h => h) rfl (by assumption) ?_ ?_
                rotate_left
                · (intro w hSw; (try dsimp only at hSw); go_simp; (try with_reducible rfl))
                simp only [List.setIfInBounds_toArray, List.set_cons_zero, List.set_cons_succ]
                refine heldY 10 37 ?_ _ rfl rfl (by kernel_rfl) (by kernel_rfl) (by kernel_rfl) (fun _ _ _ h => h) rfl (by assumption) ?_ ?_
                rotate_left
                · (intro w hSw; (try dsimp only at hSw); go_simp; (try with_reducible rfl))
                simp only [List.setIfInBounds_toArray, List.set_cons_zero, List.set_cons_succ]
                refine heldY 11 38 ?_ _ rfl rfl (by kernel_rfl) (by kernel_rfl) (by kernel_rfl) (fun _ _ _ h => h) rfl (by assumption) ?_ ?_
                rotate_left
                · (intro w hSw; (try dsimp only at hSw); go_simp; (try with_reducible rfl))
                simp only [List.setIfInBounds_toArray, List.set_cons_zero, List.set_cons_succ]
                refine heldY 12 39 ?_ _ rfl rfl (by kernel_rfl) (by kernel_rfl) (by kernel_rfl) (fun _ _ _ h => h) rfl (by assumption) ?_ ?_
                rotate_left
                · (intro w hSw; (try dsimp only at hSw); go_simp; (try with_reducible rfl))
                simp only [List.setIfInBounds_toArray, List.set_cons_zero, List.set_cons_succ]
                refine wpAnyH_ready (rs := [13]) (by kernel_rfl) (by simp) ?_
                refine AllReadyH.cons rfl (fun K hK => ?_) AllReadyH.nil
                go_simp
                first | (go_at_call 37; (with_reducible refine (TR _).mono ?_); rintro e w3 ⟨rfl, hb⟩) | (go_at_call 48; (with_reducible refine (NM _ (BE _ (by assumption))).mono ?_); rintro e w3 ⟨rfl, rfl⟩) | (go_at_call 49; (with_reducible refine (RI _ (BE _ (by assumption))).mono ?_); rintro e w3 ⟨rfl, hb⟩)
                refine hK.out _ _ ?_ (fun hHeld => ?_)
                · (try dsimp only); (first | assumption | exact hs | exact AtF.dr (w := w) (l := [(⟨b, o + k * 2, none⟩, .string X), (⟨b, o + k * 2 + 1, none⟩, .slice ua un uc), (⟨b, o + (k - 1) * 2, none⟩, .string X')]) hs | exact AtF.dr (w := w) (l := [(⟨b, o + k * 2, none⟩, .string X), (⟨b, o + k * 2 + 1, none⟩, .slice ua un uc), (⟨b, o + (k - 1) * 2, none⟩, .string X')]) (by assumption) | exact AtF.on (w := w) (l := [(⟨b, o + k * 2, none⟩, .string X), (⟨b, o + k * 2 + 1, none⟩, .slice ua un uc), (⟨b, o + (k - 1) * 2, none⟩, .string X')]) (by assumption) (by assumption) | exact AtF.al (w := w) (l := [(⟨b, o + k * 2, none⟩, .string X), (⟨b, o + k * 2 + 1, none⟩, .slice ua un uc), (⟨b, o + (k - 1) * 2, none⟩, .string X')]) (by assumption) _ | exact AtF.ald (w := w) (l := [(⟨b, o + k * 2, none⟩, .string X), (⟨b, o + k * 2 + 1, none⟩, .slice ua un uc), (⟨b, o + (k - 1) * 2, none⟩, .string X')]) (by assumption) _ | exact AtF.al (w := w) (l := [(⟨b, o + k * 2, none⟩, .string X), (⟨b, o + k * 2 + 1, none⟩, .slice ua un uc), (⟨b, o + (k - 1) * 2, none⟩, .string X')]) hs _ | exact AtF.ald (w := w) (l := [(⟨b, o + k * 2, none⟩, .string X), (⟨b, o + k * 2 + 1, none⟩, .slice ua un uc), (⟨b, o + (k - 1) * 2, none⟩, .string X')]) hs _)
                clear hK K
                try simp only [Act.put, List.setIfInBounds_toArray, List.set_cons_zero, List.set_cons_succ]
                refine heldY 14 41 ?_ _ rfl rfl (by kernel_rfl) (by kernel_rfl) (by kernel_rfl) (fun _ _ _ h => h) rfl (by assumption) ?_ ?_
                rotate_left
                · (intro w hSw; (try dsimp only at hSw); go_simp; (try with_reducible rfl))
                simp only [List.setIfInBounds_toArray, List.set_cons_zero, List.set_cons_succ]
                refine heldY 15 42 ?_ _ rfl rfl (by kernel_rfl) (by kernel_rfl) (by kernel_rfl) (fun _ _ _ h => h) rfl (by assumption) ?_ ?_
                rotate_left
                · (intro w hSw; (try dsimp only at hSw); go_simp; (try with_reducible rfl))
                simp only [List.setIfInBounds_toArray, List.set_cons_zero, List.set_cons_succ]
                refine heldY 16 43 ?_ _ rfl rfl (by kernel_rfl) (by kernel_rfl) (by kernel_rfl) (fun _ _ _ h => h) rfl (by assumption) ?_ ?_
                rotate_left
                · (intro w hSw; (try dsimp only at hSw); go_simp; (try with_reducible rfl))
                simp only [List.setIfInBounds_toArray, List.set_cons_zero, List.set_cons_succ]
                refine heldY 17 44 ?_ _ rfl rfl (by kernel_rfl) (by kernel_rfl) (by kernel_rfl) (fun _ _ _ h => h) rfl (by assumption) ?_ ?_
                rotate_left
                · (intro w hSw; (try dsimp only at hSw); go_simp; (try with_reducible rfl))
                simp only [List.setIfInBounds_toArray, List.set_cons_zero, List.set_cons_succ]
                refine heldY 18 45 ?_ _ rfl rfl (by kernel_rfl) (by kernel_rfl) (by kernel_rfl) (fun _ _ _ h => h) rfl (by assumption) ?_ ?_
                rotate_left
                · (intro w hSw; (try dsimp only at hSw); go_simp; (try with_reducible rfl))
                simp only [List.setIfInBounds_toArray, List.set_cons_zero, List.set_cons_succ]
                refine heldY 19 46 ?_ _ rfl rfl (by kernel_rfl) (by kernel_rfl) (by kernel_rfl) (fun _ _ _ h => h) rfl (by assumption) ?_ ?_
                rotate_left
                · (intro w hSw; (try dsimp only at hSw); go_simp; (try with_reducible rfl))
                simp only [List.setIfInBounds_toArray, List.set_cons_zero, List.set_cons_succ]
                refine heldY 20 47 ?_ _ rfl rfl (by kernel_rfl) (by kernel_rfl) (by kernel_rfl) (fun _ _ _ h => h) rfl (by assumption) ?_ ?_
                rotate_left
                · (intro w hSw; (try dsimp only at hSw); go_simp; (try with_reducible rfl))
                simp only [List.setIfInBounds_toArray, List.set_cons_zero, List.set_cons_succ]
                refine heldY 21 48 ?_ _ rfl rfl (by kernel_rfl) (by kernel_rfl) (by kernel_rfl) (fun _ _ _ h => h) rfl (by assumption) ?_ ?_
                rotate_left
                · (intro w hSw; (try dsimp only at hSw); go_simp; (try with_reducible rfl))
                simp only [List.setIfInBounds_toArray, List.set_cons_zero, List.set_cons_succ]
                refine wpAnyH_ready (rs := [22]) (by kernel_rfl) (by simp) ?_
                refine AllReadyH.cons rfl (fun K hK => ?_) AllReadyH.nil
                go_simp
                first | (go_at_call 37; (with_reducible refine (TR _).mono ?_); rintro e w3 ⟨rfl, hb⟩) | (go_at_call 48; (with_reducible refine (NM _ (BE _ (by assumption))).mono ?_); rintro e w3 ⟨rfl, rfl⟩) | (go_at_call 49; (with_reducible refine (RI _ (BE _ (by assumption))).mono ?_); rintro e w3 ⟨rfl, hb⟩)
                refine hK.out _ _ ?_ (fun hHeld => ?_)
                · (try dsimp only); (first | assumption | exact hs | exact AtF.dr (w := w) (l := [(⟨b, o + k * 2, none⟩, .string X), (⟨b, o + k * 2 + 1, none⟩, .slice ua un uc), (⟨b, o + (k - 1) * 2, none⟩, .string X')]) hs | exact AtF.dr (w := w) (l := [(⟨b, o + k * 2, none⟩, .string X), (⟨b, o + k * 2 + 1, none⟩, .slice ua un uc), (⟨b, o + (k - 1) * 2, none⟩, .string X')]) (by assumption) | exact AtF.on (w := w) (l := [(⟨b, o + k * 2, none⟩, .string X), (⟨b, o + k * 2 + 1, none⟩, .slice ua un uc), (⟨b, o + (k - 1) * 2, none⟩, .string X')]) (by assumption) (by assumption) | exact AtF.al (w := w) (l := [(⟨b, o + k * 2, none⟩, .string X), (⟨b, o + k * 2 + 1, none⟩, .slice ua un uc), (⟨b, o + (k - 1) * 2, none⟩, .string X')]) (by assumption) _ | exact AtF.ald (w := w) (l := [(⟨b, o + k * 2, none⟩, .string X), (⟨b, o + k * 2 + 1, none⟩, .slice ua un uc), (⟨b, o + (k - 1) * 2, none⟩, .string X')]) (by assumption) _ | exact AtF.al (w := w) (l := [(⟨b, o + k * 2, none⟩, .string X), (⟨b, o + k * 2 + 1, none⟩, .slice ua un uc), (⟨b, o + (k - 1) * 2, none⟩, .string X')]) hs _ | exact AtF.ald (w := w) (l := [(⟨b, o + k * 2, none⟩, .string X), (⟨b, o + k * 2 + 1, none⟩, .slice ua un uc), (⟨b, o + (k - 1) * 2, none⟩, .string X')]) hs _)
                clear hK K
                try simp only [Act.put, List.setIfInBounds_toArray, List.set_cons_zero, List.set_cons_succ]
                refine heldY 23 50 ?_ _ rfl rfl (by kernel_rfl) (by kernel_rfl) (by kernel_rfl) (fun _ _ _ h => h) rfl (by assumption) ?_ ?_
                rotate_left
                · (intro w hSw; (try dsimp only at hSw); go_simp; (try with_reducible rfl))
                simp only [List.setIfInBounds_toArray, List.set_cons_zero, List.set_cons_succ]
                refine heldY 24 51 ?_ _ rfl rfl (by kernel_rfl) (by kernel_rfl) (by kernel_rfl) (fun _ _ _ h => h) rfl (by assumption) ?_ ?_
                rotate_left
                · (intro w hSw; (try dsimp only at hSw); go_simp; (try with_reducible rfl))
                simp only [List.setIfInBounds_toArray, List.set_cons_zero, List.set_cons_succ]
                refine heldY 25 52 ?_ _ rfl rfl (by kernel_rfl) (by kernel_rfl) (by kernel_rfl) (fun _ _ _ h => h) rfl (by assumption) ?_ ?_
                rotate_left
                · (intro w hSw; (try dsimp only at hSw); go_simp; (try with_reducible rfl))
                simp only [List.setIfInBounds_toArray, List.set_cons_zero, List.set_cons_succ]
                refine heldY 26 53 ?_ _ rfl rfl (by kernel_rfl) (by kernel_rfl) (by kernel_rfl) (fun _ _ _ h => h) rfl (by assumption) ?_ ?_
                rotate_left
                · (intro w hSw; (try dsimp only at hSw); go_simp; (try with_reducible rfl))
                simp only [List.setIfInBounds_toArray, List.set_cons_zero, List.set_cons_succ]
                refine heldY 27 54 ?_ _ rfl rfl (by kernel_rfl) (by kernel_rfl) (by kernel_rfl) (fun _ _ _ h => h) rfl (by assumption) ?_ ?_
                rotate_left
                · (intro w hSw; (try dsimp only at hSw); go_simp; (try with_reducible rfl))
                simp only [List.setIfInBounds_toArray, List.set_cons_zero, List.set_cons_succ]
                refine heldY 28 55 ?_ _ rfl rfl (by kernel_rfl) (by kernel_rfl) (by kernel_rfl) (fun _ _ _ h => h) rfl (by assumption) ?_ ?_
                rotate_left
                · (intro w hSw; (try dsimp only at hSw); go_simp; (try with_reducible rfl))
                simp only [List.setIfInBounds_toArray, List.set_cons_zero, List.set_cons_succ]
                refine heldY 29 56 ?_ _ rfl rfl (by kernel_rfl) (by kernel_rfl) (by kernel_rfl) (fun _ _ _ h => h) rfl (by assumption) ?_ ?_
                rotate_left
                · (intro w hSw; (try dsimp only at hSw); go_simp; (try with_reducible rfl))
                simp only [List.setIfInBounds_toArray, List.set_cons_zero, List.set_cons_succ]
                refine heldY 30 57 ?_ _ rfl rfl (by kernel_rfl) (by kernel_rfl) (by kernel_rfl) (fun _ _ _ h => h) rfl (by assumption) ?_ ?_
                rotate_left
                · (intro w hSw; (try dsimp only at hSw); go_simp; (try with_reducible rfl))
                simp only [List.setIfInBounds_toArray, List.set_cons_zero, List.set_cons_succ]
                refine heldY 31 58 ?_ _ rfl rfl (by kernel_rfl) (by kernel_rfl) (by kernel_rfl) (fun _ _ _ h => h) rfl (by assumption) ?_ ?_
                rotate_left
                · (intro w hSw; (try dsimp only at hSw); go_simp; (try with_reducible rfl))
                simp only [List.setIfInBounds_toArray, List.set_cons_zero, List.set_cons_succ]
                refine heldY 32 59 ?_ _ rfl rfl (by kernel_rfl) (by kernel_rfl) (by kernel_rfl) (fun _ _ _ h => h) rfl (by assumption) ?_ ?_
                rotate_left
                · (intro w hSw; (try dsimp only at hSw); go_simp; (try with_reducible rfl))
                simp only [List.setIfInBounds_toArray, List.set_cons_zero, List.set_cons_succ]
                refine heldY 33 60 ?_ _ rfl rfl (by kernel_rfl) (by kernel_rfl) (by kernel_rfl) (fun _ _ _ h => h) rfl (by assumption) ?_ ?_
                rotate_left
                · (intro w hSw; (try dsimp only at hSw); go_simp; (try with_reducible rfl))
                simp only [List.setIfInBounds_toArray, List.set_cons_zero, List.set_cons_succ]
                refine heldY 34 61 ?_ _ rfl rfl (by kernel_rfl) (by kernel_rfl) (by kernel_rfl) (fun _ _ _ h => h) rfl (by assumption) ?_ ?_
                rotate_left
                · (intro w hSw; (try dsimp only at hSw); go_simp; (try with_reducible rfl))
                simp only [List.setIfInBounds_toArray, List.set_cons_zero, List.set_cons_succ]
                refine heldY 35 62 ?_ _ rfl rfl (by kernel_rfl) (by kernel_rfl) (by kernel_rfl) (fun _ _ _ h => h) rfl (by assumption) ?_ ?_
                rotate_left
                · (intro w hSw; (try dsimp only at hSw); go_simp; (try with_reducible rfl))
                simp only [List.setIfInBounds_toArray, List.set_cons_zero, List.set_cons_succ]
                refine heldY 36 63 ?_ _ rfl rfl (by kernel_rfl) (by kernel_rfl) (by kernel_rfl) (fun _ _ _ h => h) rfl (by assumption) ?_ ?_
                rotate_left
                · (intro w hSw; (try dsimp only at hSw); go_simp; (try with_reducible rfl))
                simp only [List.setIfInBounds_toArray, List.set_cons_zero, List.set_cons_succ]
                refine heldY 37 64 ?_ _ rfl rfl (by kernel_rfl) (by kernel_rfl) (by kernel_rfl) (fun _ _ _ h => h) rfl (by assumption) ?_ ?_
                rotate_left
                · (intro w hSw; (try dsimp only at hSw); go_simp; (try with_reducible rfl))
                simp only [List.setIfInBounds_toArray, List.set_cons_zero, List.set_cons_succ]
                refine heldY 38 65 ?_ _ rfl rfl (by kernel_rfl) (by kernel_rfl) (by kernel_rfl) (fun _ _ _ h => h) rfl (by assumption) ?_ ?_
                rotate_left
                · (intro w hSw; (try dsimp only at hSw); go_simp; (try with_reducible rfl))
                simp only [List.setIfInBounds_toArray, List.set_cons_zero, List.set_cons_succ]
                refine heldY 39 66 ?_ _ rfl rfl (by kernel_rfl) (by kernel_rfl) (by kernel_rfl) (fun _ _ _ h => h) rfl (by assumption) ?_ ?_
                rotate_left
                · (intro w hSw; (try dsimp only at hSw); go_simp; (try with_reducible rfl))
                simp only [List.setIfInBounds_toArray, List.set_cons_zero, List.set_cons_succ]
                refine heldY 40 67 ?_ _ rfl rfl (by kernel_rfl) (by kernel_rfl) (by kernel_rfl) (fun _ _ _ h => h) rfl (by assumption) ?_ ?_
                rotate_left
                · (intro w hSw; (try dsimp only at hSw); go_simp; (try with_reducible rfl))
                simp only [List.setIfInBounds_toArray, List.set_cons_zero, List.set_cons_succ]
                refine heldY 41 68 ?_ _ rfl rfl (by kernel_rfl) (by kernel_rfl) (by kernel_rfl) (fun _ _ _ h => h) rfl (by assumption) ?_ ?_
                rotate_left
                · (intro w hSw; (try dsimp only at hSw); go_simp; (try with_reducible rfl))
                simp only [List.setIfInBounds_toArray, List.set_cons_zero, List.set_cons_succ]
                refine heldY 42 69 ?_ _ rfl rfl (by kernel_rfl) (by kernel_rfl) (by kernel_rfl) (fun _ _ _ h => h) rfl (by assumption) ?_ ?_
                rotate_left
                · (intro w hSw; (try dsimp only at hSw); go_simp; (try with_reducible rfl))
                simp only [List.setIfInBounds_toArray, List.set_cons_zero, List.set_cons_succ]
                refine wpAnyH_done (by kernel_rfl) ?_ _
                have HW3 := Lib.hid (BE _ hHeld)
                clear hHeld i2 i3
                cases q
                · have HF := Lib.hid (HBADk.out rfl)
                  clear HBADk HNEXT
                  go_wp2
                  go_ret
                  exact ⟨reti HF.out, HW3.out⟩
                · have HK := Lib.hid (HNEXT.out rfl)
                  clear HBADk HNEXT
                  go_wp2
                  go_roundw
                  case rel => exact ⟨k + 1, by omega, by go_num, HK, HW3⟩
                  case measure => simp [intOf]; omega
              · have HK : Hid (∀ (j : Nat) u, j < k + 1 → L[j]? = some u → stepF (L.map (·.1)) j u.1) := Lib.hid (fun j u hj hu => by
                  obtain rfl : j = k := by omega
                  rw [HX.out] at hu; cases hu
                  exact ⟨hq, fun _ h1 => absurd h1 hk0⟩)
                have hd : decide ((0 : Int) < (k : Int)) = false := decide_eq_false (by omega)
                clear hq ht hn hr H HBAD HOK HC HS HI HX HR
                generalize bsT p.1.1 = X at *
                have hs := And.intro c0 (And.intro c1 hB)
                go_wp2
                have BE := fun (V : World) (h : V.cell? ⟨b, o + k * 2, none⟩ = some (.string X) ∧ V.cell? ⟨b, o + k * 2 + 1, none⟩ = some (.slice ua un uc) ∧ Below w.heap.size w V) => AtF.be (w := w) (l := [(⟨b, o + k * 2, none⟩, .string X), (⟨b, o + k * 2 + 1, none⟩, .slice ua un uc)]) h
                refine wp_region_held_drew (S := (fun V => V.cell? ⟨b, o + k * 2, none⟩ = some (.string X) ∧ V.cell? ⟨b, o + k * 2 + 1, none⟩ = some (.slice ua un uc) ∧ Below w.heap.size w V)) (by kernel_rfl) ?_ (fun hHeld => ?_)
                · (try dsimp only); (first | assumption | exact hs | exact AtF.dr (w := w) (l := [(⟨b, o + k * 2, none⟩, .string X), (⟨b, o + k * 2 + 1, none⟩, .slice ua un uc)]) hs | exact AtF.dr (w := w) (l := [(⟨b, o + k * 2, none⟩, .string X), (⟨b, o + k * 2 + 1, none⟩, .slice ua un uc)]) (by assumption) | exact AtF.on (w := w) (l := [(⟨b, o + k * 2, none⟩, .string X), (⟨b, o + k * 2 + 1, none⟩, .slice ua un uc)]) (by assumption) (by assumption) | exact AtF.al (w := w) (l := [(⟨b, o + k * 2, none⟩, .string X), (⟨b, o + k * 2 + 1, none⟩, .slice ua un uc)]) (by assumption) _ | exact AtF.ald (w := w) (l := [(⟨b, o + k * 2, none⟩, .string X), (⟨b, o + k * 2 + 1, none⟩, .slice ua un uc)]) (by assumption) _ | exact AtF.al (w := w) (l := [(⟨b, o + k * 2, none⟩, .string X), (⟨b, o + k * 2 + 1, none⟩, .slice ua un uc)]) hs _ | exact AtF.ald (w := w) (l := [(⟨b, o + k * 2, none⟩, .string X), (⟨b, o + k * 2 + 1, none⟩, .slice ua un uc)]) hs _)
                refine heldY 0 27 ?_ _ rfl rfl (by kernel_rfl) (by kernel_rfl) (by kernel_rfl) (fun _ _ _ h => h) rfl (by assumption) ?_ ?_
                rotate_left
                · (intro w hSw; (try dsimp only at hSw); go_simp; (try with_reducible rfl))
                simp only [List.setIfInBounds_toArray, List.set_cons_zero, List.set_cons_succ]
                refine heldY 1 28 ?_ _ rfl rfl (by kernel_rfl) (by kernel_rfl) (by kernel_rfl) (fun _ _ _ h => h) rfl (by assumption) ?_ ?_
                rotate_left
                · (intro w hSw; (try dsimp only at hSw); go_simp; (try with_reducible rfl))
                simp only [List.setIfInBounds_toArray, List.set_cons_zero, List.set_cons_succ]
                refine heldY 2 29 ?_ _ rfl rfl (by kernel_rfl) (by kernel_rfl) (by kernel_rfl) (fun _ _ _ h => h) rfl (by assumption) ?_ ?_
                rotate_left
                · (intro w hSw; (try dsimp only at hSw); go_simp; (try with_reducible rfl))
                simp only [List.setIfInBounds_toArray, List.set_cons_zero, List.set_cons_succ]
                refine heldY 3 30 ?_ _ rfl rfl (by kernel_rfl) (by kernel_rfl) (by kernel_rfl) (fun _ _ _ h => h) rfl (by assumption) ?_ ?_
                rotate_left
                · (intro w hSw; (try dsimp only at hSw); go_simp; (try with_reducible rfl))
                simp only [List.setIfInBounds_toArray, List.set_cons_zero, List.set_cons_succ]
                refine heldY 4 31 ?_ _ rfl rfl (by kernel_rfl) (by kernel_rfl) (by kernel_rfl) (fun _ _ _ h => h) rfl (by assumption) ?_ ?_
                rotate_left
                · (intro w hSw; (try dsimp only at hSw); go_simp; (try with_reducible rfl))
                simp only [List.setIfInBounds_toArray, List.set_cons_zero, List.set_cons_succ]
                refine wpAnyH_ready (rs := [5]) (by kernel_rfl) (by simp) ?_
                refine AllReadyH.cons rfl (fun K hK => ?_) AllReadyH.nil
                go_simp
                first | (go_at_call 37; (with_reducible refine (TR _).mono ?_); rintro e w3 ⟨rfl, hb⟩) | (go_at_call 48; (with_reducible refine (NM _ (BE _ (by assumption))).mono ?_); rintro e w3 ⟨rfl, rfl⟩) | (go_at_call 49; (with_reducible refine (RI _ (BE _ (by assumption))).mono ?_); rintro e w3 ⟨rfl, hb⟩)
                refine hK.out _ _ ?_ (fun hHeld => ?_)
                · (try dsimp only); (first | assumption | exact hs | exact AtF.dr (w := w) (l := [(⟨b, o + k * 2, none⟩, .string X), (⟨b, o + k * 2 + 1, none⟩, .slice ua un uc)]) hs | exact AtF.dr (w := w) (l := [(⟨b, o + k * 2, none⟩, .string X), (⟨b, o + k * 2 + 1, none⟩, .slice ua un uc)]) (by assumption) | exact AtF.on (w := w) (l := [(⟨b, o + k * 2, none⟩, .string X), (⟨b, o + k * 2 + 1, none⟩, .slice ua un uc)]) (by assumption) (by assumption) | exact AtF.al (w := w) (l := [(⟨b, o + k * 2, none⟩, .string X), (⟨b, o + k * 2 + 1, none⟩, .slice ua un uc)]) (by assumption) _ | exact AtF.ald (w := w) (l := [(⟨b, o + k * 2, none⟩, .string X), (⟨b, o + k * 2 + 1, none⟩, .slice ua un uc)]) (by assumption) _ | exact AtF.al (w := w) (l := [(⟨b, o + k * 2, none⟩, .string X), (⟨b, o + k * 2 + 1, none⟩, .slice ua un uc)]) hs _ | exact AtF.ald (w := w) (l := [(⟨b, o + k * 2, none⟩, .string X), (⟨b, o + k * 2 + 1, none⟩, .slice ua un uc)]) hs _)
                clear hK K
                try simp only [Act.put, List.setIfInBounds_toArray, List.set_cons_zero, List.set_cons_succ]
                refine heldY 6 33 ?_ _ rfl rfl (by kernel_rfl) (by kernel_rfl) (by kernel_rfl) (fun _ _ _ h => h) rfl (by assumption) ?_ ?_
                rotate_left
                · (intro w hSw; (try dsimp only at hSw); go_simp; (try with_reducible rfl))
                simp only [List.setIfInBounds_toArray, List.set_cons_zero, List.set_cons_succ]
                refine heldY 7 34 ?_ _ rfl rfl (by kernel_rfl) (by kernel_rfl) (by kernel_rfl) (fun _ _ _ h => h) rfl (by assumption) ?_ ?_
                rotate_left
                · (intro w hSw; (try dsimp only at hSw); go_simp; (try with_reducible rfl))
                simp only [List.setIfInBounds_toArray, List.set_cons_zero, List.set_cons_succ]
                refine heldY 8 35 ?_ _ rfl rfl (by kernel_rfl) (by kernel_rfl) (by kernel_rfl) (fun _ _ _ h => h) rfl (by assumption) ?_ ?_
                rotate_left
                · (intro w hSw; (try dsimp only at hSw); go_simp; (try with_reducible rfl))
                simp only [List.setIfInBounds_toArray, List.set_cons_zero, List.set_cons_succ]
                refine heldY 9 36 ?_ _ rfl rfl (by kernel_rfl) (by kernel_rfl) (by kernel_rfl) (fun _ _ _ h => h) rfl (by assumption) ?_ ?_
                rotate_left
                · (intro w hSw; (try dsimp only at hSw); go_simp; (try with_reducible rfl))
                simp only [List.setIfInBounds_toArray, List.set_cons_zero, List.set_cons_succ]
                refine heldY 10 37 ?_ _ rfl rfl (by kernel_rfl) (by kernel_rfl) (by kernel_rfl) (fun _ _ _ h => h) rfl (by assumption) ?_ ?_
                rotate_left
                · (intro w hSw; (try dsimp only at hSw); go_simp; (try with_reducible rfl))
                simp only [List.setIfInBounds_toArray, List.set_cons_zero, List.set_cons_succ]
                refine heldY 11 38 ?_ _ rfl rfl (by kernel_rfl) (by kernel_rfl) (by kernel_rfl) (fun _ _ _ h => h) rfl (by assumption) ?_ ?_
                rotate_left
                · (intro w hSw; (try dsimp only at hSw); go_simp; (try with_reducible rfl))
                simp only [List.setIfInBounds_toArray, List.set_cons_zero, List.set_cons_succ]
                refine heldY 12 39 ?_ _ rfl rfl (by kernel_rfl) (by kernel_rfl) (by kernel_rfl) (fun _ _ _ h => h) rfl (by assumption) ?_ ?_
                rotate_left
                · (intro w hSw; (try dsimp only at hSw); go_simp; (try with_reducible rfl))
                simp only [List.setIfInBounds_toArray, List.set_cons_zero, List.set_cons_succ]
                refine wpAnyH_ready (rs := [13]) (by kernel_rfl) (by simp) ?_
                refine AllReadyH.cons rfl (fun K hK => ?_) AllReadyH.nil
                go_simp
                first | (go_at_call 37; (with_reducible refine (TR _).mono ?_); rintro e w3 ⟨rfl, hb⟩) | (go_at_call 48; (with_reducible refine (NM _ (BE _ (by assumption))).mono ?_); rintro e w3 ⟨rfl, rfl⟩) | (go_at_call 49; (with_reducible refine (RI _ (BE _ (by assumption))).mono ?_); rintro e w3 ⟨rfl, hb⟩)
                refine hK.out _ _ ?_ (fun hHeld => ?_)
                · (try dsimp only); (first | assumption | exact hs | exact AtF.dr (w := w) (l := [(⟨b, o + k * 2, none⟩, .string X), (⟨b, o + k * 2 + 1, none⟩, .slice ua un uc)]) hs | exact AtF.dr (w := w) (l := [(⟨b, o + k * 2, none⟩, .string X), (⟨b, o + k * 2 + 1, none⟩, .slice ua un uc)]) (by assumption) | exact AtF.on (w := w) (l := [(⟨b, o + k * 2, none⟩, .string X), (⟨b, o + k * 2 + 1, none⟩, .slice ua un uc)]) (by assumption) (by assumption) | exact AtF.al (w := w) (l := [(⟨b, o + k * 2, none⟩, .string X), (⟨b, o + k * 2 + 1, none⟩, .slice ua un uc)]) (by assumption) _ | exact AtF.ald (w := w) (l := [(⟨b, o + k * 2, none⟩, .string X), (⟨b, o + k * 2 + 1, none⟩, .slice ua un uc)]) (by assumption) _ | exact AtF.al (w := w) (l := [(⟨b, o + k * 2, none⟩, .string X), (⟨b, o + k * 2 + 1, none⟩, .slice ua un uc)]) hs _ | exact AtF.ald (w := w) (l := [(⟨b, o + k * 2, none⟩, .string X), (⟨b, o + k * 2 + 1, none⟩, .slice ua un uc)]) hs _)
                clear hK K
                try simp only [Act.put, List.setIfInBounds_toArray, List.set_cons_zero, List.set_cons_succ]
                refine heldY 14 41 ?_ _ rfl rfl (by kernel_rfl) (by kernel_rfl) (by kernel_rfl) (fun _ _ _ h => h) rfl (by assumption) ?_ ?_
                rotate_left
                · (intro w hSw; (try dsimp only at hSw); go_simp; (try with_reducible rfl))
                simp only [List.setIfInBounds_toArray, List.set_cons_zero, List.set_cons_succ]
                refine heldY 15 42 ?_ _ rfl rfl (by kernel_rfl) (by kernel_rfl) (by kernel_rfl) (fun _ _ _ h => h) rfl (by assumption) ?_ ?_
                rotate_left
                · (intro w hSw; (try dsimp only at hSw); go_simp; (try with_reducible rfl))
                simp only [List.setIfInBounds_toArray, List.set_cons_zero, List.set_cons_succ]
                refine heldY 16 43 ?_ _ rfl rfl (by kernel_rfl) (by kernel_rfl) (by kernel_rfl) (fun _ _ _ h => h) rfl (by assumption) ?_ ?_
                rotate_left
                · (intro w hSw; (try dsimp only at hSw); go_simp; (try with_reducible rfl))
                simp only [List.setIfInBounds_toArray, List.set_cons_zero, List.set_cons_succ]
                refine heldY 17 44 ?_ _ rfl rfl (by kernel_rfl) (by kernel_rfl) (by kernel_rfl) (fun _ _ _ h => h) rfl (by assumption) ?_ ?_
                rotate_left
                · (intro w hSw; (try dsimp only at hSw); go_simp; (try with_reducible rfl))
                simp only [List.setIfInBounds_toArray, List.set_cons_zero, List.set_cons_succ]
                refine heldY 18 45 ?_ _ rfl rfl (by kernel_rfl) (by kernel_rfl) (by kernel_rfl) (fun _ _ _ h => h) rfl (by assumption) ?_ ?_
                rotate_left
                · (intro w hSw; (try dsimp only at hSw); go_simp; (try with_reducible rfl))
                simp only [List.setIfInBounds_toArray, List.set_cons_zero, List.set_cons_succ]
                refine heldY 19 46 ?_ _ rfl rfl (by kernel_rfl) (by kernel_rfl) (by kernel_rfl) (fun _ _ _ h => h) rfl (by assumption) ?_ ?_
                rotate_left
                · (intro w hSw; (try dsimp only at hSw); go_simp; (try with_reducible rfl))
                simp only [List.setIfInBounds_toArray, List.set_cons_zero, List.set_cons_succ]
                refine heldY 20 47 ?_ _ rfl rfl (by kernel_rfl) (by kernel_rfl) (by kernel_rfl) (fun _ _ _ h => h) rfl (by assumption) ?_ ?_
                rotate_left
                · (intro w hSw; (try dsimp only at hSw); go_simp; (try with_reducible rfl))
                simp only [List.setIfInBounds_toArray, List.set_cons_zero, List.set_cons_succ]
                refine heldY 21 48 ?_ _ rfl rfl (by kernel_rfl) (by kernel_rfl) (by kernel_rfl) (fun _ _ _ h => h) rfl (by assumption) ?_ ?_
                rotate_left
                · (intro w hSw; (try dsimp only at hSw); go_simp; (try with_reducible rfl))
                simp only [List.setIfInBounds_toArray, List.set_cons_zero, List.set_cons_succ]
                refine wpAnyH_ready (rs := [22]) (by kernel_rfl) (by simp) ?_
                refine AllReadyH.cons rfl (fun K hK => ?_) AllReadyH.nil
                go_simp
                first | (go_at_call 37; (with_reducible refine (TR _).mono ?_); rintro e w3 ⟨rfl, hb⟩) | (go_at_call 48; (with_reducible refine (NM _ (BE _ (by assumption))).mono ?_); rintro e w3 ⟨rfl, rfl⟩) | (go_at_call 49; (with_reducible refine (RI _ (BE _ (by assumption))).mono ?_); rintro e w3 ⟨rfl, hb⟩)
                refine hK.out _ _ ?_ (fun hHeld => ?_)
                · (try dsimp only); (first | assumption | exact hs | exact AtF.dr (w := w) (l := [(⟨b, o + k * 2, none⟩, .string X), (⟨b, o + k * 2 + 1, none⟩, .slice ua un uc)]) hs | exact AtF.dr (w := w) (l := [(⟨b, o + k * 2, none⟩, .string X), (⟨b, o + k * 2 + 1, none⟩, .slice ua un uc)]) (by assumption) | exact AtF.on (w := w) (l := [(⟨b, o + k * 2, none⟩, .string X), (⟨b, o + k * 2 + 1, none⟩, .slice ua un uc)]) (by assumption) (by assumption) | exact AtF.al (w := w) (l := [(⟨b, o + k * 2, none⟩, .string X), (⟨b, o + k * 2 + 1, none⟩, .slice ua un uc)]) (by assumption) _ | exact AtF.ald (w := w) (l := [(⟨b, o + k * 2, none⟩, .string X), (⟨b, o + k * 2 + 1, none⟩, .slice ua un uc)]) (by assumption) _ | exact AtF.al (w := w) (l := [(⟨b, o + k * 2, none⟩, .string X), (⟨b, o + k * 2 + 1, none⟩, .slice ua un uc)]) hs _ | exact AtF.ald (w := w) (l := [(⟨b, o + k * 2, none⟩, .string X), (⟨b, o + k * 2 + 1, none⟩, .slice ua un uc)]) hs _)
                clear hK K
                try simp only [Act.put, List.setIfInBounds_toArray, List.set_cons_zero, List.set_cons_succ]
                refine heldY 23 50 ?_ _ rfl rfl (by kernel_rfl) (by kernel_rfl) (by kernel_rfl) (fun _ _ _ h => h) rfl (by assumption) ?_ ?_
                rotate_left
                · (intro w hSw; (try dsimp only at hSw); go_simp; (try with_reducible rfl))
                simp only [List.setIfInBounds_toArray, List.set_cons_zero, List.set_cons_succ]
                refine heldY 24 51 ?_ _ rfl rfl (by kernel_rfl) (by kernel_rfl) (by kernel_rfl) (fun _ _ _ h => h) rfl (by assumption) ?_ ?_
                rotate_left
                · (intro w hSw; (try dsimp only at hSw); go_simp; (try with_reducible rfl))
                simp only [List.setIfInBounds_toArray, List.set_cons_zero, List.set_cons_succ]
                refine heldY 25 52 ?_ _ rfl rfl (by kernel_rfl) (by kernel_rfl) (by kernel_rfl) (fun _ _ _ h => h) rfl (by assumption) ?_ ?_
                rotate_left
                · (intro w hSw; (try dsimp only at hSw); go_simp; (try with_reducible rfl))
                simp only [List.setIfInBounds_toArray, List.set_cons_zero, List.set_cons_succ]
                refine heldY 26 53 ?_ _ rfl rfl (by kernel_rfl) (by kernel_rfl) (by kernel_rfl) (fun _ _ _ h => h) rfl (by assumption) ?_ ?_
                rotate_left
                · (intro w hSw; (try dsimp only at hSw); go_simp; (try with_reducible rfl))
                simp only [List.setIfInBounds_toArray, List.set_cons_zero, List.set_cons_succ]
                refine heldY 27 54 ?_ _ rfl rfl (by kernel_rfl) (by kernel_rfl) (by kernel_rfl) (fun _ _ _ h => h) rfl (by assumption) ?_ ?_
                rotate_left
                · (intro w hSw; (try dsimp only at hSw); go_simp; (try with_reducible rfl))
                simp only [List.setIfInBounds_toArray, List.set_cons_zero, List.set_cons_succ]
                refine heldY 28 55 ?_ _ rfl rfl (by kernel_rfl) (by kernel_rfl) (by kernel_rfl) (fun _ _ _ h => h) rfl (by assumption) ?_ ?_
                rotate_left
                · (intro w hSw; (try dsimp only at hSw); go_simp; (try with_reducible rfl))
                simp only [List.setIfInBounds_toArray, List.set_cons_zero, List.set_cons_succ]
                refine heldNo 29 56 rfl (by kernel_rfl) (by kernel_rfl) (by kernel_rfl) (fun _ _ _ h => h) rfl (by assumption) ?_
                simp only [List.setIfInBounds_toArray, List.set_cons_zero, List.set_cons_succ]
                refine heldNo 30 57 rfl (by kernel_rfl) (by kernel_rfl) (by kernel_rfl) (fun _ _ _ h => h) rfl (by assumption) ?_
                simp only [List.setIfInBounds_toArray, List.set_cons_zero, List.set_cons_succ]
                refine heldNo 31 58 rfl (by kernel_rfl) (by kernel_rfl) (by kernel_rfl) (fun _ _ _ h => h) rfl (by assumption) ?_
                simp only [List.setIfInBounds_toArray, List.set_cons_zero, List.set_cons_succ]
                refine heldNo 32 59 rfl (by kernel_rfl) (by kernel_rfl) (by kernel_rfl) (fun _ _ _ h => h) rfl (by assumption) ?_
                simp only [List.setIfInBounds_toArray, List.set_cons_zero, List.set_cons_succ]
                refine heldNo 33 60 rfl (by kernel_rfl) (by kernel_rfl) (by kernel_rfl) (fun _ _ _ h => h) rfl (by assumption) ?_
                simp only [List.setIfInBounds_toArray, List.set_cons_zero, List.set_cons_succ]
                refine heldNo 34 61 rfl (by kernel_rfl) (by kernel_rfl) (by kernel_rfl) (fun _ _ _ h => h) rfl (by assumption) ?_
                simp only [List.setIfInBounds_toArray, List.set_cons_zero, List.set_cons_succ]
                refine heldNo 35 62 rfl (by kernel_rfl) (by kernel_rfl) (by kernel_rfl) (fun _ _ _ h => h) rfl (by assumption) ?_
                simp only [List.setIfInBounds_toArray, List.set_cons_zero, List.set_cons_succ]
                refine heldNo 36 63 rfl (by kernel_rfl) (by kernel_rfl) (by kernel_rfl) (fun _ _ _ h => h) rfl (by assumption) ?_
                simp only [List.setIfInBounds_toArray, List.set_cons_zero, List.set_cons_succ]
                refine heldNo 37 64 rfl (by kernel_rfl) (by kernel_rfl) (by kernel_rfl) (fun _ _ _ h => h) rfl (by assumption) ?_
                simp only [List.setIfInBounds_toArray, List.set_cons_zero, List.set_cons_succ]
                refine heldNo 38 65 rfl (by kernel_rfl) (by kernel_rfl) (by kernel_rfl) (fun _ _ _ h => h) rfl (by assumption) ?_
                simp only [List.setIfInBounds_toArray, List.set_cons_zero, List.set_cons_succ]
                refine heldNo 39 66 rfl (by kernel_rfl) (by kernel_rfl) (by kernel_rfl) (fun _ _ _ h => h) rfl (by assumption) ?_
                simp only [List.setIfInBounds_toArray, List.set_cons_zero, List.set_cons_succ]
                refine heldNo 40 67 rfl (by kernel_rfl) (by kernel_rfl) (by kernel_rfl) (fun _ _ _ h => h) rfl (by assumption) ?_
                simp only [List.setIfInBounds_toArray, List.set_cons_zero, List.set_cons_succ]
                refine heldY 41 68 ?_ _ rfl rfl (by kernel_rfl) (by kernel_rfl) (by kernel_rfl) (fun _ _ _ h => h) rfl (by assumption) ?_ ?_
                rotate_left
                · (intro w hSw; (try dsimp only at hSw); go_simp; (try with_reducible rfl))
                simp only [List.setIfInBounds_toArray, List.set_cons_zero, List.set_cons_succ]
                refine heldY 42 69 ?_ _ rfl rfl (by kernel_rfl) (by kernel_rfl) (by kernel_rfl) (fun _ _ _ h => h) rfl (by assumption) ?_ ?_
                rotate_left
                · (intro w hSw; (try dsimp only at hSw); go_simp; (try with_reducible rfl))
                simp only [List.setIfInBounds_toArray, List.set_cons_zero, List.set_cons_succ]
                refine wpAnyH_done (by kernel_rfl) ?_ _
                have HW3 := Lib.hid (BE _ hHeld)
                clear hHeld
                go_wp2
                go_roundw
                case rel => exact ⟨k + 1, by omega, by go_num, HK, HW3⟩
                case measure => simp [intOf]; omega
      · obtain rfl : k = n := by omega
        have HF := Lib.hid (HOK.out (fun i x hx => by
          obtain ⟨p, hp, rfl⟩ : ∃ p, L[i]? = some p ∧ p.1 = x := by
            rw [List.getElem?_map] at hx
            cases hp : L[i]? with
            | none => rw [hp] at hx; cases hx
            | some p => rw [hp] at hx; exact ⟨p, rfl, Option.some.inj hx⟩
          exact H.out i p (by have := (List.getElem?_eq_some_iff.1 hp).1; rw [HN.out] at this; exact this) hp))
        clear hlt H HBAD HOK
        go_wp2
        go_ret
        exact ⟨reti HF.out, HB.out⟩
end Go.Proofs.YtceohgjfjndcmaaGreatDoor
