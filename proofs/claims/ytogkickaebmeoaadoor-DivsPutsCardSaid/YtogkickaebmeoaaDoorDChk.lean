/-
  The program's Check: what it returns; nothing old turns. Condition: LaidP.
-/
import Derived.Test.YtogkickaebmeoaaDoorDCheck
import Derived.Test.YtogkickaebmeoaaDoorDTrue
namespace Go.Proofs.YtogkickaebmeoaaDoor
open Go.RowKit
theorem rises {l : List Dv} (h : StepsD l) : ∀ (d i : Nat) x y, l[i]? = some x → l[i + d + 1]? = some y → x.1 < y.1
  | 0, i, x, y, hx, hy => (h (i + 1) y hy).2 x (by omega) hx
  | d + 1, i, x, y, hx, hy => by
    have hlen := (List.getElem?_eq_some_iff.1 hy).1
    obtain ⟨z, hz⟩ : ∃ z, l[i + d + 1]? = some z := ⟨_, List.getElem?_eq_getElem (by omega)⟩
    exact List.lt_trans (rises h d i x z hx hz) ((h (i + d + 1 + 1) y hy).2 z (by omega) hz)
theorem paths_apart {l : List Dv} (h : StepsD l) {i k : Nat} {x y : Dv} (hx : l[i]? = some x) (hy : l[k]? = some y) (e : x.1 = y.1) : i = k := by
  rcases Nat.lt_trichotomy i k with g | g | g
  · have := rises h (k - i - 1) i x y hx (by rw [show i + (k - i - 1) + 1 = k by omega]; exact hy)
    rw [e] at this
    exact absurd this (List.lt_irrefl _)
  · exact g
  · have := rises h (i - k - 1) k y x hy (by rw [show k + (i - k - 1) + 1 = i by omega]; exact hx)
    rw [e] at this
    exact absurd this (List.lt_irrefl _)
def goodD (l : List Dv) (x : Dv) : Prop := idxD l (pathIs x.2.1) = -1 ∧ fromD l x.2.1 = x.1
theorem ok_of_good {l : List Dv} (h : StepsD l) (g : ∀ (i : Nat) x, l[i]? = some x → goodD l x) : OkD l := fun i x hx => by
  refine ⟨h i x hx, fun k y hy => ⟨fun e => ?_, fun hk e => ?_⟩⟩
  · rcases idxD_cases l (pathIs x.2.1) with ⟨_, h2⟩ | ⟨k', x', h1, _⟩
    · have := h2 y (List.mem_of_getElem? hy)
      unfold pathIs at this
      rw [e] at this; simp at this
    · have := (g i x hx).1
      rw [h1] at this; omega
  · have h1 := (g i x hx).2
    have h2 := (g k y hy).2
    rw [e, h1] at h2
    exact hk (paths_apart h hx hy h2).symm
theorem good_of_ok {l : List Dv} (h : OkD l) {i : Nat} {x : Dv} (hx : l[i]? = some x) : goodD l x := by
  constructor
  · rcases idxD_cases l (pathIs x.2.1) with ⟨h1, _⟩ | ⟨k', x', h1, h2, h3, _⟩
    · exact h1
    · unfold pathIs at h3
      exact absurd (of_decide_eq_true h3) ((h i x hx).2 k' x' h2).1
  · cases hf : l.find? (toIs x.2.1) with
    | none =>
      have := List.find?_eq_none.1 hf x (List.mem_of_getElem? hx)
      unfold toIs at this; simp at this
    | some z =>
      rw [fromD_hit hf]
      have h1 := List.find?_some hf
      unfold toIs at h1
      have := sameTo h (List.mem_of_find?_eq_some hf) (List.mem_of_getElem? hx) (of_decide_eq_true h1)
      rw [this]
def ChkPost (l : List Dv) (w : World) (e : Ending) (w' : World) : Prop := e = .returned (.int .i64 (checkD l)) ∧ Below w.heap.size w w'
set_option maxRecDepth 100000 in
set_option maxHeartbeats 8000000 in
theorem check9_any (v : Value) (l : List Dv) (hl : l.length ≤ 90000) (hs : SmallD l) (w : World) (hL : LaidP w) (h : HoldD w v l) : Calls Tryd.prog 88 #[v] w (ChkPost l w) := by
  have KC := kcheck_any v l hl hs w hL h
  have FA := fun (s : ByteArray) W (hb : Below w.heap.size w W) => find9_any v l hl s W (HoldR.on h hb)
  have GA := fun (s : ByteArray) W (hb : Below w.heap.size w W) => from_any v l hl s W (HoldR.on h hb)
  unfold FromPost at GA
  unfold pathF rightF at KC
  obtain ⟨a, c, b, o, rfl, hc, ha, hcell⟩ := h.parts
  have HC := Lib.hid hcell
  have HP : Hid (∀ z w', z = checkD l → Below w.heap.size w w' → ChkPost l w (.returned (.int .i64 z)) w') := Lib.hid (fun z w' e hb => ⟨by rw [e], hb⟩)
  obtain ⟨n, hN⟩ : ∃ n, l.length = n := ⟨_, rfl⟩
  rw [hN] at hc ha hl KC FA GA ⊢
  have HN := Lib.hid hN
  clear hcell hN h hs hL
  by_cases h64 : 64 < n
  · rw [kchkD_long (by rw [HN.out]; exact h64)] at KC
    have HF : Hid ((22 : Int) = checkD l) := Lib.hid (by rw [checkD_long (by rw [HN.out]; exact h64)])
    clear h64 FA GA
    go_enter Tryd.func88, Tryd.ntmps88
    go_wp2_with (go_at_call 110; refine KC.mono ?_; rintro e w1 ⟨rfl, hb⟩; have HB := Lib.hid hb; clear hb)
    go_ret
    exact HP.out _ _ HF.out HB.out
  by_cases hst : StepsD l
  case neg =>
    rw [kchkD_no (by rw [HN.out]; exact h64) hst] at KC
    have HF : Hid ((1 : Int) = checkD l) := Lib.hid (by rw [checkD_no (by rw [HN.out]; exact h64) (fun g => hst (fun i x hx => (g i x hx).1))])
    clear h64 FA GA hst
    go_enter Tryd.func88, Tryd.ntmps88
    go_wp2_with (go_at_call 110; refine KC.mono ?_; rintro e w1 ⟨rfl, hb⟩; have HB := Lib.hid hb; clear hb)
    go_ret
    exact HP.out _ _ HF.out HB.out
  rw [kchkD_ok (by rw [HN.out]; exact h64) hst] at KC
  have HBAD : Hid (∀ (i : Nat) x, l[i]? = some x → ¬ goodD l x → (1 : Int) = checkD l) := Lib.hid (fun i x hx g => by rw [checkD_no (by rw [HN.out]; exact h64) (fun q => g (good_of_ok q hx))])
  have HOK : Hid ((∀ (i : Nat) x, l[i]? = some x → goodD l x) → (0 : Int) = checkD l) := Lib.hid (fun g => by rw [checkD_ok (by rw [HN.out]; exact h64) (ok_of_good hst g)])
  clear h64 hst
  go_enter Tryd.func88, Tryd.ntmps88
  go_wp2_with (go_at_call 110; refine KC.mono ?_; rintro e w1 ⟨rfl, hb⟩; have HB0 := Lib.hid hb; clear hb KC)
  go_loopw [13] (fun i wr => ∃ k : Nat, k ≤ n ∧ i = .int .i64 k ∧ Hid (∀ (j : Nat) y, j < k → l[j]? = some y → goodD l y) ∧ Hid (Below w.heap.size w wr)) (fun i _ => n - (intOf i).toNat)
  case atStart => exact ⟨0, by omega, rfl, Lib.hid (fun j y hj => by omega), HB0⟩
  case round =>
    obtain ⟨k, hk, rfl, H, HB⟩ := hrel
    by_cases hlt : k < n
    · obtain ⟨rfl, hbw⟩ := ha (by omega)
      obtain ⟨x, hx⟩ : ∃ x, l[k]? = some x := ⟨_, List.getElem?_eq_getElem (by rw [HN.out]; exact hlt)⟩
      obtain ⟨c0, c1, c2⟩ := HC.out k x hx
      rw [← HB.out.cell (p := ⟨b, o + k * 3, none⟩) hbw] at c0
      rw [← HB.out.cell (p := ⟨b, o + k * 3 + 1, none⟩) hbw] at c1
      rw [← HB.out.cell (p := ⟨b, o + k * 3 + 2, none⟩) hbw] at c2
      have HX := Lib.hid hx
      have hsz := HB.out.size
      have B0 := HB.out.alloc hsz (.cells #[.string (bsA x.1), .string (bsA x.2.1), .string (bsA x.2.2)] 54)
      obtain ⟨x0, x1, x2⟩ := box3 wr (bsA x.1) (bsA x.2.1) (bsA x.2.2) 54
      have hs := And.intro x0 (And.intro x1 (And.intro x2 B0))
      have FX := FA (bsA x.2.1)
      have GX := GA (bsA x.2.1)
      dsimp only at FX GX
      clear hx x0 x1 x2 B0 HC
      have hqe := eqT (bsA (fromD l x.2.1)) (bsA x.1)
      dsimp only at hqe
      have HGD : Hid (goodD l x ↔ (idxD l (pathIs x.2.1) = -1 ∧ fromD l x.2.1 = x.1)) := Lib.hid Iff.rfl
      by_cases hfd : idxD l (pathIs x.2.1) = -1
      · simp only [hfd] at FX
        have HNEXT : Hid (decide (fromD l x.2.1 = x.1) = true → ∀ (j : Nat) y, j < k + 1 → l[j]? = some y → goodD l y) := Lib.hid (fun g j y hj hy => by
          by_cases e : j = k
          · subst e; rw [HX.out] at hy; cases hy; exact HGD.out.2 ⟨hfd, of_decide_eq_true g⟩
          · exact H.out j y (by omega) hy)
        have HB1 : Hid (decide (fromD l x.2.1 = x.1) = false → (1 : Int) = checkD l) := Lib.hid (fun g => HBAD.out k x HX.out (fun q => by rw [decide_eq_true (HGD.out.1 q).2] at g; cases g))
        generalize decide (fromD l x.2.1 = x.1) = q at *
        generalize bsA (fromD l x.2.1) = FR at *
        clear hfd HGD H HBAD FA GA HX
        generalize bsA x.1 = X at *
        generalize bsA x.2.1 = Y at *
        generalize bsA x.2.2 = ZZ at *
        go_wp2
        generalize wr.alloc (.cells #[.string X, .string Y, .string ZZ] 54) = W2 at *
        generalize hb0 : wr.heap.size = b0 at *
        obtain ⟨x0, x1, x2, hB⟩ := hs
        have hs := And.intro x0 (And.intro x1 (And.intro x2 hB))
        clear hb0
        go_region_held3 (fun V => V.cell? ⟨b0, 0, none⟩ = some (.string X) ∧ V.cell? ⟨b0, 1, none⟩ = some (.string Y) ∧ V.cell? ⟨b0, 2, none⟩ = some (.string ZZ) ∧ Below w.heap.size w V)
          (first | assumption | exact hs | exact s3_dr hs | exact s3_on (by assumption) (by assumption))
          ((first
            | (go_at_call 38; (with_reducible refine (FX _ (s3_be (b := b0) (X := X) (Y := Y) (Z := ZZ) (by assumption))).mono ?_); rintro e w3 ⟨rfl, hb⟩)
            | (go_at_call 111; (with_reducible refine (GX _ (s3_be (b := b0) (X := X) (Y := Y) (Z := ZZ) (by assumption))).mono ?_); rintro e w3 ⟨rfl, hb⟩)))
        all_goals
          rename_i hHeld
          have HW3 := Lib.hid hHeld.2.2.2
          clear hHeld
          cases q
          · have HF := Lib.hid (HB1.out rfl)
            clear HB1 HNEXT
            go_wp2
            go_ret
            exact HP.out _ _ HF.out HW3.out
          · have HK := Lib.hid (HNEXT.out rfl)
            clear HB1 HNEXT
            go_wp2
            go_roundw
            case rel => exact ⟨k + 1, by omega, by go_num, HK, HW3⟩
            case measure => simp [intOf]; omega
      · have HF := Lib.hid (HBAD.out k x HX.out (fun q => hfd (HGD.out.1 q).1))
        have hz : (0 : Int) ≤ idxD l (pathIs x.2.1) := by
          rcases idxD_cases l (pathIs x.2.1) with ⟨e1, _⟩ | ⟨k', _, e1, _⟩
          · exact absurd e1 hfd
          · omega
        generalize idxD l (pathIs x.2.1) = z at *
        clear hfd HGD H HBAD FA GA GX HX hqe
        generalize bsA x.1 = X at *
        generalize bsA x.2.1 = Y at *
        generalize bsA x.2.2 = ZZ at *
        go_wp2
        generalize wr.alloc (.cells #[.string X, .string Y, .string ZZ] 54) = W2 at *
        generalize hb0 : wr.heap.size = b0 at *
        obtain ⟨x0, x1, x2, hB⟩ := hs
        have hs := And.intro x0 (And.intro x1 (And.intro x2 hB))
        have hzd : decide (z ≥ 0) = true := decide_eq_true hz
        clear hb0
        refine wp_region_held_drew (S := (fun V => V.cell? ⟨b0, 0, none⟩ = some (.string X) ∧ V.cell? ⟨b0, 1, none⟩ = some (.string Y) ∧ V.cell? ⟨b0, 2, none⟩ = some (.string ZZ) ∧ Below w.heap.size w V)) (by kernel_rfl) ?_ (fun hHeld => ?_)
        · (try dsimp only); (first | assumption | exact hs | exact s3_dr hs | exact s3_on (by assumption) (by assumption))
        refine heldYes 0 17 ?_ rfl (by kernel_rfl) (by kernel_rfl) (by kernel_rfl) (fun _ _ _ h => h) rfl (by assumption) ?_ ?_
        rotate_left
        · (intro w hSw; (try dsimp only at hSw); go_simp; (try with_reducible rfl))
        simp only [List.setIfInBounds_toArray, List.set_cons_zero, List.set_cons_succ]
        refine heldYes 1 18 ?_ rfl (by kernel_rfl) (by kernel_rfl) (by kernel_rfl) (fun _ _ _ h => h) rfl (by assumption) ?_ ?_
        rotate_left
        · (intro w hSw; (try dsimp only at hSw); go_simp; (try with_reducible rfl))
        simp only [List.setIfInBounds_toArray, List.set_cons_zero, List.set_cons_succ]
        refine heldYes 2 19 ?_ rfl (by kernel_rfl) (by kernel_rfl) (by kernel_rfl) (fun _ _ _ h => h) rfl (by assumption) ?_ ?_
        rotate_left
        · (intro w hSw; (try dsimp only at hSw); go_simp; (try with_reducible rfl))
        simp only [List.setIfInBounds_toArray, List.set_cons_zero, List.set_cons_succ]
        refine wpAnyH_ready (rs := [3]) (by kernel_rfl) (by simp) ?_
        refine AllReadyH.cons rfl (fun K hK => ?_) AllReadyH.nil
        go_simp
        go_at_call 38; refine (FX _ (s3_be (b := b0) (X := X) (Y := Y) (Z := ZZ) (by assumption))).mono ?_; rintro e w3 ⟨rfl, hb⟩
        refine hK.out _ _ ?_ (fun hHeld => ?_)
        · (try dsimp only); (first | assumption | exact hs | exact s3_dr hs | exact s3_on (by assumption) (by assumption))
        clear hK K
        try simp only [Act.put, List.setIfInBounds_toArray, List.set_cons_zero, List.set_cons_succ]
        refine heldYes 4 21 ?_ rfl (by kernel_rfl) (by kernel_rfl) (by kernel_rfl) (fun _ _ _ h => h) rfl (by assumption) ?_ ?_
        rotate_left
        · (intro w hSw; (try dsimp only at hSw); go_simp; (try with_reducible rfl))
        simp only [List.setIfInBounds_toArray, List.set_cons_zero, List.set_cons_succ]
        refine heldYes 5 22 ?_ rfl (by kernel_rfl) (by kernel_rfl) (by kernel_rfl) (fun _ _ _ h => h) rfl (by assumption) ?_ ?_
        rotate_left
        · (intro w hSw; (try dsimp only at hSw); go_simp; (try with_reducible rfl))
        simp only [List.setIfInBounds_toArray, List.set_cons_zero, List.set_cons_succ]
        refine heldNo 6 23 rfl (by kernel_rfl) (by kernel_rfl) (by kernel_rfl) (fun _ _ _ h => h) rfl (by assumption) ?_
        simp only [List.setIfInBounds_toArray, List.set_cons_zero, List.set_cons_succ]
        refine heldNo 7 24 rfl (by kernel_rfl) (by kernel_rfl) (by kernel_rfl) (fun _ _ _ h => h) rfl (by assumption) ?_
        simp only [List.setIfInBounds_toArray, List.set_cons_zero, List.set_cons_succ]
        refine heldNo 8 25 rfl (by kernel_rfl) (by kernel_rfl) (by kernel_rfl) (fun _ _ _ h => h) rfl (by assumption) ?_
        simp only [List.setIfInBounds_toArray, List.set_cons_zero, List.set_cons_succ]
        refine heldNo 9 26 rfl (by kernel_rfl) (by kernel_rfl) (by kernel_rfl) (fun _ _ _ h => h) rfl (by assumption) ?_
        simp only [List.setIfInBounds_toArray, List.set_cons_zero, List.set_cons_succ]
        refine heldNo 10 27 rfl (by kernel_rfl) (by kernel_rfl) (by kernel_rfl) (fun _ _ _ h => h) rfl (by assumption) ?_
        simp only [List.setIfInBounds_toArray, List.set_cons_zero, List.set_cons_succ]
        refine heldNo 11 28 rfl (by kernel_rfl) (by kernel_rfl) (by kernel_rfl) (fun _ _ _ h => h) rfl (by assumption) ?_
        simp only [List.setIfInBounds_toArray, List.set_cons_zero, List.set_cons_succ]
        refine heldNo 12 29 rfl (by kernel_rfl) (by kernel_rfl) (by kernel_rfl) (fun _ _ _ h => h) rfl (by assumption) ?_
        simp only [List.setIfInBounds_toArray, List.set_cons_zero, List.set_cons_succ]
        refine heldYes 13 30 ?_ rfl (by kernel_rfl) (by kernel_rfl) (by kernel_rfl) (fun _ _ _ h => h) rfl (by assumption) ?_ ?_
        rotate_left
        · (intro w hSw; (try dsimp only at hSw); go_simp; (try with_reducible rfl))
        simp only [List.setIfInBounds_toArray, List.set_cons_zero, List.set_cons_succ]
        refine wpAnyH_done (by kernel_rfl) ?_ _
        have HW3 := Lib.hid hHeld.2.2.2
        clear hHeld
        go_wp2
        go_ret
        exact HP.out _ _ HF.out HW3.out
    · obtain rfl : k = n := by omega
      have HF := Lib.hid (HOK.out (fun i x hx => H.out i x (by have := (List.getElem?_eq_some_iff.1 hx).1; rw [HN.out] at this; exact this) hx))
      clear hlt H HBAD HOK
      go_wp2
      go_ret
      exact HP.out _ _ HF.out HB.out
end Go.Proofs.YtogkickaebmeoaaDoor
