/-
  The walk of AltsBest, given its law's example (AW): for every list of choices it returns true; nothing old turns. AltsBest's walk and its law's example, together.
-/
import Derived.Test.YtnfhccnicojdcaaGreatDoorZBest
import Derived.Test.YtnfhccnicojdcaaGreatDoorZFew
import Derived.Test.YtnfhccnicojdcaaGreatDoorZAwake
namespace Go.Proofs.YtnfhccnicojdcaaGreatDoor
open Go.RowKit
theorem over_irrefl (c : Cv) : overC c c = false := by
  unfold overC; simp [List.lt_irrefl]
theorem over_trans {a b c : Cv} (h : overC a b = true) (g : overC b c = true) : overC a c = true := by
  unfold overC at *
  simp only [Bool.or_eq_true, Bool.and_eq_true, decide_eq_true_eq] at *
  rcases h with h | ⟨h1, h2⟩ <;> rcases g with g | ⟨g1, g2⟩
  · left; omega
  · left; omega
  · left; omega
  · right; exact ⟨by omega, List.lt_trans h2 g2⟩
theorem best_max (l : List Cv) : ∀ k, k ≤ l.length → ∀ (m : Nat) d, bestAt l k = m → l[m]? = some d → ∀ (j : Nat) c, j < k → l[j]? = some c → overC c d = false
  | 0, _, _, _, _, _, j, _, hj, _ => by omega
  | k + 1, hk, m, d, hm, hd, j, c, hj, hc => by
    obtain ⟨x, hx⟩ : ∃ x, l[k]? = some x := ⟨_, List.getElem?_eq_getElem (by omega)⟩
    rcases bestAt_range l k (by omega) with ⟨h1, h0⟩ | ⟨h1, h2⟩
    · have e := bestAt_first hx (by omega)
      rw [e] at hm
      obtain rfl : m = k := by omega
      rw [hx] at hd; cases hd
      obtain rfl : j = m := by omega
      rw [hx] at hc; cases hc
      exact over_irrefl _
    · obtain ⟨q, hq⟩ : ∃ q : Nat, bestAt l k = q := ⟨(bestAt l k).toNat, by omega⟩
      obtain ⟨b, hb⟩ : ∃ b, l[q]? = some b := ⟨_, List.getElem?_eq_getElem (by omega)⟩
      have ih := best_max l k (by omega) q b hq hb
      cases ho : overC x b
      · rw [bestAt_stay hx hq hb ho] at hm
        obtain rfl : m = q := by omega
        rw [hb] at hd; cases hd
        by_cases e : j = k
        · subst e; rw [hx] at hc; cases hc; exact ho
        · exact ih j c (by omega) hc
      · rw [bestAt_over hx hq hb ho] at hm
        obtain rfl : m = k := by omega
        rw [hx] at hd; cases hd
        by_cases e : j = m
        · subst e; rw [hx] at hc; cases hc; exact over_irrefl _
        · have := ih j c (by omega) hc
          cases g : overC c d
          · rfl
          · rw [over_trans g ho] at this; cases this
end Go.Proofs.YtnfhccnicojdcaaGreatDoor
namespace Go.Proofs.YtnfhccnicojdcaaGreatDoor.altsBestw
open Go.RowKit
abbrev exB (l : List Cv) (v : Value) : Av := ⟨[], [], false, [], [], l, .slice none 0 0, v⟩
set_option maxRecDepth 100000 in
set_option maxHeartbeats 16000000 in
theorem walk (v : Value) (l : List Cv) (hl : l.length ≤ maxLen) (hf : ∀ c ∈ l, FitC c) (w : World) (h : HoldC w v l)
    (AW : ∀ W, Below w.heap.size w W → Calls Tryz.prog 10 #[] W fun e w' => e = .returned (.bool true) ∧ Below W.heap.size W w') :
    Calls Tryz.prog 3 #[v] w fun e w' => e = .returned (.bool true) ∧ Below w.heap.size w w' := by
  have hin : InA w (exB l v) := ⟨HoldV.nil 2 w, h⟩
  have hfit : FitA (exB l v) := ⟨by simp, by simp, by simp, by simp, hl, fun s hs => by simp at hs, hf⟩
  obtain ⟨y0, y1, y2, y3, y4, y5⟩ := boxV6 w (.string (⟨#[]⟩ : ByteArray)) (.string (⟨#[]⟩ : ByteArray)) (.bool false) (.string (⟨#[]⟩ : ByteArray)) (.slice none 0 0) v 26
  have hone : HoldA (w.alloc (.cells #[.string (⟨#[]⟩ : ByteArray), .string (⟨#[]⟩ : ByteArray), .bool false, .string (⟨#[]⟩ : ByteArray), .slice none 0 0, v] 26)) (.slice (some ⟨w.heap.size, 0, none⟩) 1 1) [exB l v] := by
    refine ⟨⟨some ⟨w.heap.size, 0, none⟩, 1, w.heap.size, 0, rfl, Nat.le_refl _, fun _ => ⟨rfl, by simp⟩, fun j r hj i y hi hy => ?_⟩, fun y hy => ?_⟩
    · match j, hj with
      | 0, hj =>
        simp at hj; subst hj
        match i, hi, hy with
        | 0, _, hy => cases hy; exact y0
        | 1, _, hy => cases hy; exact y1
        | 2, _, hy => cases hy; exact y2
        | 3, _, hy => cases hy; exact y3
        | 4, _, hy => cases hy; exact y4
        | 5, _, hy => cases hy; exact y5
      | j + 1, hj => simp at hj
    · simp at hy; subst hy
      exact hin.on ((Below.refl _ _).alloc (Nat.le_refl _) _)
  have FW := fewA_any _ [exB l v] (by simp [maxLen]) (fun y hy => by rw [List.mem_singleton.1 hy]; exact hfit) _ hone
  unfold FewAP at FW
  have HB1 := Lib.hid ((Below.refl w.heap.size w).alloc (Nat.le_refl _) (.cells #[.string (⟨#[]⟩ : ByteArray), .string (⟨#[]⟩ : ByteArray), .bool false, .string (⟨#[]⟩ : ByteArray), .slice none 0 0, v] 26))
  have HFO : Hid (FewA [exB l v] → l.length ≤ 70) := Lib.hid (fun g => (g.2 (exB l v) (List.mem_singleton.2 rfl)).ch)
  have BP := fun (h7 : l.length ≤ 70) W (hb : Below w.heap.size w W) => bestC_any v l (by omega) W (HoldC.on h hb)
  have BR := fun (h7 : l.length ≤ 70) W (hb : Below w.heap.size w W) => bestC_ref v l (by omega) W (HoldC.on h hb)
  have HMX := Lib.hid (best_max l l.length (Nat.le_refl _))
  have hbr := bestAt_range l l.length (Nat.le_refl _)
  obtain ⟨a, c, b, o, rfl, hc, ha, hcell⟩ := h.parts
  obtain ⟨t, ht⟩ : ∃ t, bestC l = t := ⟨_, rfl⟩
  have HT := Lib.hid (show bestAt l l.length = t from ht)
  rw [show bestAt l l.length = t from ht] at hbr
  rw [ht] at BP BR
  have HC := Lib.hid hcell
  obtain ⟨n, hN⟩ : ∃ n, l.length = n := ⟨_, rfl⟩
  have HN := Lib.hid hN
  rw [hN] at hc ha BP BR hbr FW HB1
  rw [hN]
  have HFN := Lib.hid (fun g : FewA [exB l (.slice a l.length c)] => (by rw [← hN]; exact HFO.out g : n ≤ 70))
  clear hcell h hin hfit hone y0 y1 y2 y3 y4 y5 hf HFO ht hl
  rw [hN] at HFN
  clear hN
  go_enter Tryz.func3, Tryz.ntmps3
  go_wp2_with (go_at_call 9; (with_reducible refine FW.mono ?_); rintro e w3 ⟨fb, rfl, hfb, hb⟩; have HF3 := Lib.hid hfb; have HB3 := Lib.hid (HB1.out.trans (hb.mono HB1.out.size)); clear hb hfb; refine Hid.out ?_)
  clear FW HB1
  refine Lib.hid ?_
  cases fb
  · go_wp2_with (go_at_call 10; (with_reducible refine (AW _ HB3.out).mono ?_); rintro e w4 ⟨rfl, hb⟩; have HB4 := Lib.hid (HB3.out.trans (hb.mono HB3.out.size)); clear hb)
    go_ret
    exact ⟨rfl, HB4.out⟩
  · have h7 := HFN.out (HF3.out rfl)
    have BP1 := BP h7
    have BR1 := BR h7
    clear BP BR HFN HF3
    go_wp2_with (first
      | (go_at_call 11; (with_reducible refine (BP1 _ HB3.out).mono ?_); rintro e w4 ⟨rfl, hb⟩; have HB4 := Lib.hid (HB3.out.trans (hb.mono HB3.out.size)); clear hb)
      | (go_at_call 12; (with_reducible refine (BR1 _ HB4.out).mono ?_); rintro e w5 ⟨rfl, hb⟩; have HB5 := Lib.hid (HB4.out.trans (hb.mono HB4.out.size)); clear hb))
    clear BP1 BR1
    go_loopw [4] (fun i wr => ∃ k : Nat, k ≤ n ∧ i = .int .i64 k ∧ Hid (Below w.heap.size w wr)) (fun i _ => n - (intOf i).toNat)
    case atStart => exact ⟨0, by omega, rfl, HB5⟩
    case round =>
      obtain ⟨k, hk, rfl, HB⟩ := hrel
      by_cases hlt : k < n
      · obtain ⟨rfl, hbw⟩ := ha (by omega)
        obtain ⟨m, hm⟩ : ∃ m : Nat, t = m := ⟨t.toNat, by omega⟩
        subst hm
        have hmn : m < n := by omega
        obtain ⟨x, hx⟩ : ∃ x, l[k]? = some x := ⟨_, List.getElem?_eq_getElem (by rw [HN.out]; exact hlt)⟩
        obtain ⟨d, hd⟩ : ∃ d, l[m]? = some d := ⟨_, List.getElem?_eq_getElem (by rw [HN.out]; exact hmn)⟩
        have hov := HMX.out m d HT.out hd k x (by rw [HN.out]; exact hlt) hx
        obtain ⟨c0, c1, -⟩ := HC.out k x hx
        obtain ⟨d0, d1, -⟩ := HC.out m d hd
        rw [← HB.out.cell (p := ⟨b, o + k * 3, none⟩) hbw] at c0
        rw [← HB.out.cell (p := ⟨b, o + k * 3 + 1, none⟩) hbw] at c1
        rw [← HB.out.cell (p := ⟨b, o + m * 3, none⟩) hbw] at d0
        rw [← HB.out.cell (p := ⟨b, o + m * 3 + 1, none⟩) hbw] at d1
        have hls := lessT (⟨x.1.1.toArray⟩ : ByteArray) (⟨d.1.1.toArray⟩ : ByteArray)
        rw [bytesOf, bytesOf] at hls
        have HOV : Hid ((decide (d.1.2.1 < x.1.2.1) || (decide (x.1.2.1 = d.1.2.1) && decide (x.1.1 < d.1.1))) = false) := Lib.hid hov
        have j0 : (0 : Int) ≤ (k : Int) := by omega
        have j1 : (k : Int) < (n : Int) := by omega
        have j3 : (0 : Int) ≤ (m : Int) := by omega
        have j4 : (m : Int) < (n : Int) := by omega
        have hs := (And.intro c0 (And.intro c1 (And.intro d0 (And.intro d1 HB.out))))
        generalize decide (x.1.1 < d.1.1) = q3 at *
        generalize (⟨x.1.1.toArray⟩ : ByteArray) = X0 at *
        generalize (⟨d.1.1.toArray⟩ : ByteArray) = D0 at *
        generalize x.1.2.1 = z at *
        generalize d.1.2.1 = y at *
        have h1 : ¬ y < z := fun g => by have := HOV.out; rw [decide_eq_true g] at this; cases this
        have e1 : decide (z > y) = false := decide_eq_false h1
        clear hx c0 c1 hd d0 d1 hov HC hbr
        by_cases h2 : z = y
        · have hq3 : q3 = false := by have := HOV.out; rw [decide_eq_false h1, decide_eq_true h2] at this; simpa using this
          subst hq3 h2
          clear HOV
          go_wp2
          have BE := fun (V : World) (h : V.cell? ⟨b, o + k * 3, none⟩ = some (.string X0) ∧ V.cell? ⟨b, o + k * 3 + 1, none⟩ = some (.int .i64 z) ∧ V.cell? ⟨b, o + m * 3, none⟩ = some (.string D0) ∧ V.cell? ⟨b, o + m * 3 + 1, none⟩ = some (.int .i64 z) ∧ Below w.heap.size w V) => AtF.be (w := w) (l := [(⟨b, o + k * 3, none⟩, .string X0), (⟨b, o + k * 3 + 1, none⟩, .int .i64 z), (⟨b, o + m * 3, none⟩, .string D0), (⟨b, o + m * 3 + 1, none⟩, .int .i64 z)]) h
          refine wp_region_held_drew (S := (fun V => V.cell? ⟨b, o + k * 3, none⟩ = some (.string X0) ∧ V.cell? ⟨b, o + k * 3 + 1, none⟩ = some (.int .i64 z) ∧ V.cell? ⟨b, o + m * 3, none⟩ = some (.string D0) ∧ V.cell? ⟨b, o + m * 3 + 1, none⟩ = some (.int .i64 z) ∧ Below w.heap.size w V)) (by kernel_rfl) ?_ (fun hHeld => ?_)
          · (try dsimp only); (first | assumption | exact hs | exact AtF.dr (w := w) (l := [(⟨b, o + k * 3, none⟩, .string X0), (⟨b, o + k * 3 + 1, none⟩, .int .i64 z), (⟨b, o + m * 3, none⟩, .string D0), (⟨b, o + m * 3 + 1, none⟩, .int .i64 z)]) hs | exact AtF.dr (w := w) (l := [(⟨b, o + k * 3, none⟩, .string X0), (⟨b, o + k * 3 + 1, none⟩, .int .i64 z), (⟨b, o + m * 3, none⟩, .string D0), (⟨b, o + m * 3 + 1, none⟩, .int .i64 z)]) (by assumption) | exact AtF.on (w := w) (l := [(⟨b, o + k * 3, none⟩, .string X0), (⟨b, o + k * 3 + 1, none⟩, .int .i64 z), (⟨b, o + m * 3, none⟩, .string D0), (⟨b, o + m * 3 + 1, none⟩, .int .i64 z)]) (by assumption) (by assumption) | exact AtF.al (w := w) (l := [(⟨b, o + k * 3, none⟩, .string X0), (⟨b, o + k * 3 + 1, none⟩, .int .i64 z), (⟨b, o + m * 3, none⟩, .string D0), (⟨b, o + m * 3 + 1, none⟩, .int .i64 z)]) (by assumption) _ | exact AtF.ald (w := w) (l := [(⟨b, o + k * 3, none⟩, .string X0), (⟨b, o + k * 3 + 1, none⟩, .int .i64 z), (⟨b, o + m * 3, none⟩, .string D0), (⟨b, o + m * 3 + 1, none⟩, .int .i64 z)]) (by assumption) _ | exact AtF.al (w := w) (l := [(⟨b, o + k * 3, none⟩, .string X0), (⟨b, o + k * 3 + 1, none⟩, .int .i64 z), (⟨b, o + m * 3, none⟩, .string D0), (⟨b, o + m * 3 + 1, none⟩, .int .i64 z)]) hs _ | exact AtF.ald (w := w) (l := [(⟨b, o + k * 3, none⟩, .string X0), (⟨b, o + k * 3 + 1, none⟩, .int .i64 z), (⟨b, o + m * 3, none⟩, .string D0), (⟨b, o + m * 3 + 1, none⟩, .int .i64 z)]) hs _)
          refine heldY 0 23 ?_ _ rfl rfl (by kernel_rfl) (by kernel_rfl) (by kernel_rfl) (fun _ _ _ h => h) rfl (by assumption) ?_ ?_
          rotate_left
          · (intro w hSw; (try dsimp only at hSw); go_simp; (try with_reducible rfl))
          try simp only [List.setIfInBounds_toArray, List.set_cons_zero, List.set_cons_succ]
          refine heldY 1 24 ?_ _ rfl rfl (by kernel_rfl) (by kernel_rfl) (by kernel_rfl) (fun _ _ _ h => h) rfl (by assumption) ?_ ?_
          rotate_left
          · (intro w hSw; (try dsimp only at hSw); go_simp; (try with_reducible rfl))
          try simp only [List.setIfInBounds_toArray, List.set_cons_zero, List.set_cons_succ]
          refine heldY 2 25 ?_ _ rfl rfl (by kernel_rfl) (by kernel_rfl) (by kernel_rfl) (fun _ _ _ h => h) rfl (by assumption) ?_ ?_
          rotate_left
          · (intro w hSw; (try dsimp only at hSw); go_simp; (try with_reducible rfl))
          try simp only [List.setIfInBounds_toArray, List.set_cons_zero, List.set_cons_succ]
          refine heldY 3 26 ?_ _ rfl rfl (by kernel_rfl) (by kernel_rfl) (by kernel_rfl) (fun _ _ _ h => h) rfl (by assumption) ?_ ?_
          rotate_left
          · (intro w hSw; (try dsimp only at hSw); go_simp; (try with_reducible rfl))
          try simp only [List.setIfInBounds_toArray, List.set_cons_zero, List.set_cons_succ]
          refine heldY 4 27 ?_ _ rfl rfl (by kernel_rfl) (by kernel_rfl) (by kernel_rfl) (fun _ _ _ h => h) rfl (by assumption) ?_ ?_
          rotate_left
          · (intro w hSw; (try dsimp only at hSw); go_simp; (try with_reducible rfl))
          try simp only [List.setIfInBounds_toArray, List.set_cons_zero, List.set_cons_succ]
          refine heldY 5 28 ?_ _ rfl rfl (by kernel_rfl) (by kernel_rfl) (by kernel_rfl) (fun _ _ _ h => h) rfl (by assumption) ?_ ?_
          rotate_left
          · (intro w hSw; (try dsimp only at hSw); go_simp; (try with_reducible rfl))
          try simp only [List.setIfInBounds_toArray, List.set_cons_zero, List.set_cons_succ]
          refine heldY 6 29 ?_ _ rfl rfl (by kernel_rfl) (by kernel_rfl) (by kernel_rfl) (fun _ _ _ h => h) rfl (by assumption) ?_ ?_
          rotate_left
          · (intro w hSw; (try dsimp only at hSw); go_simp; (try with_reducible rfl))
          try simp only [List.setIfInBounds_toArray, List.set_cons_zero, List.set_cons_succ]
          refine heldY 7 30 ?_ _ rfl rfl (by kernel_rfl) (by kernel_rfl) (by kernel_rfl) (fun _ _ _ h => h) rfl (by assumption) ?_ ?_
          rotate_left
          · (intro w hSw; (try dsimp only at hSw); go_simp; (try with_reducible rfl))
          try simp only [List.setIfInBounds_toArray, List.set_cons_zero, List.set_cons_succ]
          refine heldY 8 31 ?_ _ rfl rfl (by kernel_rfl) (by kernel_rfl) (by kernel_rfl) (fun _ _ _ h => h) rfl (by assumption) ?_ ?_
          rotate_left
          · (intro w hSw; (try dsimp only at hSw); go_simp; (try with_reducible rfl))
          try simp only [List.setIfInBounds_toArray, List.set_cons_zero, List.set_cons_succ]
          refine heldY 9 32 ?_ _ rfl rfl (by kernel_rfl) (by kernel_rfl) (by kernel_rfl) (fun _ _ _ h => h) rfl (by assumption) ?_ ?_
          rotate_left
          · (intro w hSw; (try dsimp only at hSw); go_simp; (try with_reducible rfl))
          try simp only [List.setIfInBounds_toArray, List.set_cons_zero, List.set_cons_succ]
          refine heldY 10 33 ?_ _ rfl rfl (by kernel_rfl) (by kernel_rfl) (by kernel_rfl) (fun _ _ _ h => h) rfl (by assumption) ?_ ?_
          rotate_left
          · (intro w hSw; (try dsimp only at hSw); go_simp; (try with_reducible rfl))
          try simp only [List.setIfInBounds_toArray, List.set_cons_zero, List.set_cons_succ]
          refine heldY 11 34 ?_ _ rfl rfl (by kernel_rfl) (by kernel_rfl) (by kernel_rfl) (fun _ _ _ h => h) rfl (by assumption) ?_ ?_
          rotate_left
          · (intro w hSw; (try dsimp only at hSw); go_simp; (try with_reducible rfl))
          try simp only [List.setIfInBounds_toArray, List.set_cons_zero, List.set_cons_succ]
          refine heldY 12 35 ?_ _ rfl rfl (by kernel_rfl) (by kernel_rfl) (by kernel_rfl) (fun _ _ _ h => h) rfl (by assumption) ?_ ?_
          rotate_left
          · (intro w hSw; (try dsimp only at hSw); go_simp; (try with_reducible rfl))
          try simp only [List.setIfInBounds_toArray, List.set_cons_zero, List.set_cons_succ]
          refine heldY 13 36 ?_ _ rfl rfl (by kernel_rfl) (by kernel_rfl) (by kernel_rfl) (fun _ _ _ h => h) rfl (by assumption) ?_ ?_
          rotate_left
          · (intro w hSw; (try dsimp only at hSw); go_simp; (try with_reducible rfl))
          try simp only [List.setIfInBounds_toArray, List.set_cons_zero, List.set_cons_succ]
          refine heldY 14 37 ?_ _ rfl rfl (by kernel_rfl) (by kernel_rfl) (by kernel_rfl) (fun _ _ _ h => h) rfl (by assumption) ?_ ?_
          rotate_left
          · (intro w hSw; (try dsimp only at hSw); go_simp; (try with_reducible rfl))
          try simp only [List.setIfInBounds_toArray, List.set_cons_zero, List.set_cons_succ]
          refine heldY 15 38 ?_ _ rfl rfl (by kernel_rfl) (by kernel_rfl) (by kernel_rfl) (fun _ _ _ h => h) rfl (by assumption) ?_ ?_
          rotate_left
          · (intro w hSw; (try dsimp only at hSw); go_simp; (try with_reducible rfl))
          try simp only [List.setIfInBounds_toArray, List.set_cons_zero, List.set_cons_succ]
          refine heldY 16 39 ?_ _ rfl rfl (by kernel_rfl) (by kernel_rfl) (by kernel_rfl) (fun _ _ _ h => h) rfl (by assumption) ?_ ?_
          rotate_left
          · (intro w hSw; (try dsimp only at hSw); go_simp; (try with_reducible rfl))
          try simp only [List.setIfInBounds_toArray, List.set_cons_zero, List.set_cons_succ]
          refine heldY 17 40 ?_ _ rfl rfl (by kernel_rfl) (by kernel_rfl) (by kernel_rfl) (fun _ _ _ h => h) rfl (by assumption) ?_ ?_
          rotate_left
          · (intro w hSw; (try dsimp only at hSw); go_simp; (try with_reducible rfl))
          try simp only [List.setIfInBounds_toArray, List.set_cons_zero, List.set_cons_succ]
          refine heldY 18 41 ?_ _ rfl rfl (by kernel_rfl) (by kernel_rfl) (by kernel_rfl) (fun _ _ _ h => h) rfl (by assumption) ?_ ?_
          rotate_left
          · (intro w hSw; (try dsimp only at hSw); go_simp; (try with_reducible rfl))
          try simp only [List.setIfInBounds_toArray, List.set_cons_zero, List.set_cons_succ]
          refine heldY 19 42 ?_ _ rfl rfl (by kernel_rfl) (by kernel_rfl) (by kernel_rfl) (fun _ _ _ h => h) rfl (by assumption) ?_ ?_
          rotate_left
          · (intro w hSw; (try dsimp only at hSw); go_simp; (try with_reducible rfl))
          try simp only [List.setIfInBounds_toArray, List.set_cons_zero, List.set_cons_succ]
          refine heldY 20 43 ?_ _ rfl rfl (by kernel_rfl) (by kernel_rfl) (by kernel_rfl) (fun _ _ _ h => h) rfl (by assumption) ?_ ?_
          rotate_left
          · (intro w hSw; (try dsimp only at hSw); go_simp; (try with_reducible rfl))
          try simp only [List.setIfInBounds_toArray, List.set_cons_zero, List.set_cons_succ]
          refine heldY 21 44 ?_ _ rfl rfl (by kernel_rfl) (by kernel_rfl) (by kernel_rfl) (fun _ _ _ h => h) rfl (by assumption) ?_ ?_
          rotate_left
          · (intro w hSw; (try dsimp only at hSw); go_simp; (try with_reducible rfl))
          try simp only [List.setIfInBounds_toArray, List.set_cons_zero, List.set_cons_succ]
          refine heldY 22 45 ?_ _ rfl rfl (by kernel_rfl) (by kernel_rfl) (by kernel_rfl) (fun _ _ _ h => h) rfl (by assumption) ?_ ?_
          rotate_left
          · (intro w hSw; (try dsimp only at hSw); go_simp; (try with_reducible rfl))
          try simp only [List.setIfInBounds_toArray, List.set_cons_zero, List.set_cons_succ]
          refine heldY 23 46 ?_ _ rfl rfl (by kernel_rfl) (by kernel_rfl) (by kernel_rfl) (fun _ _ _ h => h) rfl (by assumption) ?_ ?_
          rotate_left
          · (intro w hSw; (try dsimp only at hSw); go_simp; (try with_reducible rfl))
          try simp only [List.setIfInBounds_toArray, List.set_cons_zero, List.set_cons_succ]
          refine heldY 24 47 ?_ _ rfl rfl (by kernel_rfl) (by kernel_rfl) (by kernel_rfl) (fun _ _ _ h => h) rfl (by assumption) ?_ ?_
          rotate_left
          · (intro w hSw; (try dsimp only at hSw); go_simp; (try with_reducible rfl))
          try simp only [List.setIfInBounds_toArray, List.set_cons_zero, List.set_cons_succ]
          refine heldY 25 48 ?_ _ rfl rfl (by kernel_rfl) (by kernel_rfl) (by kernel_rfl) (fun _ _ _ h => h) rfl (by assumption) ?_ ?_
          rotate_left
          · (intro w hSw; (try dsimp only at hSw); go_simp; (try with_reducible rfl))
          try simp only [List.setIfInBounds_toArray, List.set_cons_zero, List.set_cons_succ]
          refine heldY 26 49 ?_ _ rfl rfl (by kernel_rfl) (by kernel_rfl) (by kernel_rfl) (fun _ _ _ h => h) rfl (by assumption) ?_ ?_
          rotate_left
          · (intro w hSw; (try dsimp only at hSw); go_simp; (try with_reducible rfl))
          try simp only [List.setIfInBounds_toArray, List.set_cons_zero, List.set_cons_succ]
          refine heldY 27 50 ?_ _ rfl rfl (by kernel_rfl) (by kernel_rfl) (by kernel_rfl) (fun _ _ _ h => h) rfl (by assumption) ?_ ?_
          rotate_left
          · (intro w hSw; (try dsimp only at hSw); go_simp; (try with_reducible rfl))
          try simp only [List.setIfInBounds_toArray, List.set_cons_zero, List.set_cons_succ]
          refine heldY 28 51 ?_ _ rfl rfl (by kernel_rfl) (by kernel_rfl) (by kernel_rfl) (fun _ _ _ h => h) rfl (by assumption) ?_ ?_
          rotate_left
          · (intro w hSw; (try dsimp only at hSw); go_simp; (try with_reducible rfl))
          try simp only [List.setIfInBounds_toArray, List.set_cons_zero, List.set_cons_succ]
          refine heldY 29 52 ?_ _ rfl rfl (by kernel_rfl) (by kernel_rfl) (by kernel_rfl) (fun _ _ _ h => h) rfl (by assumption) ?_ ?_
          rotate_left
          · (intro w hSw; (try dsimp only at hSw); go_simp; (try with_reducible rfl))
          try simp only [List.setIfInBounds_toArray, List.set_cons_zero, List.set_cons_succ]
          refine heldY 30 53 ?_ _ rfl rfl (by kernel_rfl) (by kernel_rfl) (by kernel_rfl) (fun _ _ _ h => h) rfl (by assumption) ?_ ?_
          rotate_left
          · (intro w hSw; (try dsimp only at hSw); go_simp; (try with_reducible rfl))
          try simp only [List.setIfInBounds_toArray, List.set_cons_zero, List.set_cons_succ]
          refine heldY 31 54 ?_ _ rfl rfl (by kernel_rfl) (by kernel_rfl) (by kernel_rfl) (fun _ _ _ h => h) rfl (by assumption) ?_ ?_
          rotate_left
          · (intro w hSw; (try dsimp only at hSw); go_simp; (try with_reducible rfl))
          try simp only [List.setIfInBounds_toArray, List.set_cons_zero, List.set_cons_succ]
          refine heldY 32 55 ?_ _ rfl rfl (by kernel_rfl) (by kernel_rfl) (by kernel_rfl) (fun _ _ _ h => h) rfl (by assumption) ?_ ?_
          rotate_left
          · (intro w hSw; (try dsimp only at hSw); go_simp; (try with_reducible rfl))
          try simp only [List.setIfInBounds_toArray, List.set_cons_zero, List.set_cons_succ]
          refine heldY 33 56 ?_ _ rfl rfl (by kernel_rfl) (by kernel_rfl) (by kernel_rfl) (fun _ _ _ h => h) rfl (by assumption) ?_ ?_
          rotate_left
          · (intro w hSw; (try dsimp only at hSw); go_simp; (try with_reducible rfl))
          try simp only [List.setIfInBounds_toArray, List.set_cons_zero, List.set_cons_succ]
          refine heldY 34 57 ?_ _ rfl rfl (by kernel_rfl) (by kernel_rfl) (by kernel_rfl) (fun _ _ _ h => h) rfl (by assumption) ?_ ?_
          rotate_left
          · (intro w hSw; (try dsimp only at hSw); go_simp; (try with_reducible rfl))
          try simp only [List.setIfInBounds_toArray, List.set_cons_zero, List.set_cons_succ]
          refine heldY 35 58 ?_ _ rfl rfl (by kernel_rfl) (by kernel_rfl) (by kernel_rfl) (fun _ _ _ h => h) rfl (by assumption) ?_ ?_
          rotate_left
          · (intro w hSw; (try dsimp only at hSw); go_simp; (try with_reducible rfl))
          try simp only [List.setIfInBounds_toArray, List.set_cons_zero, List.set_cons_succ]
          refine heldY 36 59 ?_ _ rfl rfl (by kernel_rfl) (by kernel_rfl) (by kernel_rfl) (fun _ _ _ h => h) rfl (by assumption) ?_ ?_
          rotate_left
          · (intro w hSw; (try dsimp only at hSw); go_simp; (try with_reducible rfl))
          try simp only [List.setIfInBounds_toArray, List.set_cons_zero, List.set_cons_succ]
          refine wpAnyH_done (by kernel_rfl) ?_ _
          have HW3 := Lib.hid (BE _ hHeld)
          clear hHeld
          go_wp2
          go_roundw
          case rel => exact ⟨k + 1, by omega, by go_num, HW3⟩
          case measure => simp [intOf]; omega
        · have e2 : (z == y) = false := by simpa using h2
          clear HOV
          go_wp2
          have BE := fun (V : World) (h : V.cell? ⟨b, o + k * 3, none⟩ = some (.string X0) ∧ V.cell? ⟨b, o + k * 3 + 1, none⟩ = some (.int .i64 z) ∧ V.cell? ⟨b, o + m * 3, none⟩ = some (.string D0) ∧ V.cell? ⟨b, o + m * 3 + 1, none⟩ = some (.int .i64 y) ∧ Below w.heap.size w V) => AtF.be (w := w) (l := [(⟨b, o + k * 3, none⟩, .string X0), (⟨b, o + k * 3 + 1, none⟩, .int .i64 z), (⟨b, o + m * 3, none⟩, .string D0), (⟨b, o + m * 3 + 1, none⟩, .int .i64 y)]) h
          refine wp_region_held_drew (S := (fun V => V.cell? ⟨b, o + k * 3, none⟩ = some (.string X0) ∧ V.cell? ⟨b, o + k * 3 + 1, none⟩ = some (.int .i64 z) ∧ V.cell? ⟨b, o + m * 3, none⟩ = some (.string D0) ∧ V.cell? ⟨b, o + m * 3 + 1, none⟩ = some (.int .i64 y) ∧ Below w.heap.size w V)) (by kernel_rfl) ?_ (fun hHeld => ?_)
          · (try dsimp only); (first | assumption | exact hs | exact AtF.dr (w := w) (l := [(⟨b, o + k * 3, none⟩, .string X0), (⟨b, o + k * 3 + 1, none⟩, .int .i64 z), (⟨b, o + m * 3, none⟩, .string D0), (⟨b, o + m * 3 + 1, none⟩, .int .i64 y)]) hs | exact AtF.dr (w := w) (l := [(⟨b, o + k * 3, none⟩, .string X0), (⟨b, o + k * 3 + 1, none⟩, .int .i64 z), (⟨b, o + m * 3, none⟩, .string D0), (⟨b, o + m * 3 + 1, none⟩, .int .i64 y)]) (by assumption) | exact AtF.on (w := w) (l := [(⟨b, o + k * 3, none⟩, .string X0), (⟨b, o + k * 3 + 1, none⟩, .int .i64 z), (⟨b, o + m * 3, none⟩, .string D0), (⟨b, o + m * 3 + 1, none⟩, .int .i64 y)]) (by assumption) (by assumption) | exact AtF.al (w := w) (l := [(⟨b, o + k * 3, none⟩, .string X0), (⟨b, o + k * 3 + 1, none⟩, .int .i64 z), (⟨b, o + m * 3, none⟩, .string D0), (⟨b, o + m * 3 + 1, none⟩, .int .i64 y)]) (by assumption) _ | exact AtF.ald (w := w) (l := [(⟨b, o + k * 3, none⟩, .string X0), (⟨b, o + k * 3 + 1, none⟩, .int .i64 z), (⟨b, o + m * 3, none⟩, .string D0), (⟨b, o + m * 3 + 1, none⟩, .int .i64 y)]) (by assumption) _ | exact AtF.al (w := w) (l := [(⟨b, o + k * 3, none⟩, .string X0), (⟨b, o + k * 3 + 1, none⟩, .int .i64 z), (⟨b, o + m * 3, none⟩, .string D0), (⟨b, o + m * 3 + 1, none⟩, .int .i64 y)]) hs _ | exact AtF.ald (w := w) (l := [(⟨b, o + k * 3, none⟩, .string X0), (⟨b, o + k * 3 + 1, none⟩, .int .i64 z), (⟨b, o + m * 3, none⟩, .string D0), (⟨b, o + m * 3 + 1, none⟩, .int .i64 y)]) hs _)
          refine heldY 0 23 ?_ _ rfl rfl (by kernel_rfl) (by kernel_rfl) (by kernel_rfl) (fun _ _ _ h => h) rfl (by assumption) ?_ ?_
          rotate_left
          · (intro w hSw; (try dsimp only at hSw); go_simp; (try with_reducible rfl))
          try simp only [List.setIfInBounds_toArray, List.set_cons_zero, List.set_cons_succ]
          refine heldY 1 24 ?_ _ rfl rfl (by kernel_rfl) (by kernel_rfl) (by kernel_rfl) (fun _ _ _ h => h) rfl (by assumption) ?_ ?_
          rotate_left
          · (intro w hSw; (try dsimp only at hSw); go_simp; (try with_reducible rfl))
          try simp only [List.setIfInBounds_toArray, List.set_cons_zero, List.set_cons_succ]
          refine heldY 2 25 ?_ _ rfl rfl (by kernel_rfl) (by kernel_rfl) (by kernel_rfl) (fun _ _ _ h => h) rfl (by assumption) ?_ ?_
          rotate_left
          · (intro w hSw; (try dsimp only at hSw); go_simp; (try with_reducible rfl))
          try simp only [List.setIfInBounds_toArray, List.set_cons_zero, List.set_cons_succ]
          refine heldY 3 26 ?_ _ rfl rfl (by kernel_rfl) (by kernel_rfl) (by kernel_rfl) (fun _ _ _ h => h) rfl (by assumption) ?_ ?_
          rotate_left
          · (intro w hSw; (try dsimp only at hSw); go_simp; (try with_reducible rfl))
          try simp only [List.setIfInBounds_toArray, List.set_cons_zero, List.set_cons_succ]
          refine heldY 4 27 ?_ _ rfl rfl (by kernel_rfl) (by kernel_rfl) (by kernel_rfl) (fun _ _ _ h => h) rfl (by assumption) ?_ ?_
          rotate_left
          · (intro w hSw; (try dsimp only at hSw); go_simp; (try with_reducible rfl))
          try simp only [List.setIfInBounds_toArray, List.set_cons_zero, List.set_cons_succ]
          refine heldY 5 28 ?_ _ rfl rfl (by kernel_rfl) (by kernel_rfl) (by kernel_rfl) (fun _ _ _ h => h) rfl (by assumption) ?_ ?_
          rotate_left
          · (intro w hSw; (try dsimp only at hSw); go_simp; (try with_reducible rfl))
          try simp only [List.setIfInBounds_toArray, List.set_cons_zero, List.set_cons_succ]
          refine heldY 6 29 ?_ _ rfl rfl (by kernel_rfl) (by kernel_rfl) (by kernel_rfl) (fun _ _ _ h => h) rfl (by assumption) ?_ ?_
          rotate_left
          · (intro w hSw; (try dsimp only at hSw); go_simp; (try with_reducible rfl))
          try simp only [List.setIfInBounds_toArray, List.set_cons_zero, List.set_cons_succ]
          refine heldY 7 30 ?_ _ rfl rfl (by kernel_rfl) (by kernel_rfl) (by kernel_rfl) (fun _ _ _ h => h) rfl (by assumption) ?_ ?_
          rotate_left
          · (intro w hSw; (try dsimp only at hSw); go_simp; (try with_reducible rfl))
          try simp only [List.setIfInBounds_toArray, List.set_cons_zero, List.set_cons_succ]
          refine heldY 8 31 ?_ _ rfl rfl (by kernel_rfl) (by kernel_rfl) (by kernel_rfl) (fun _ _ _ h => h) rfl (by assumption) ?_ ?_
          rotate_left
          · (intro w hSw; (try dsimp only at hSw); go_simp; (try with_reducible rfl))
          try simp only [List.setIfInBounds_toArray, List.set_cons_zero, List.set_cons_succ]
          refine heldY 9 32 ?_ _ rfl rfl (by kernel_rfl) (by kernel_rfl) (by kernel_rfl) (fun _ _ _ h => h) rfl (by assumption) ?_ ?_
          rotate_left
          · (intro w hSw; (try dsimp only at hSw); go_simp; (try with_reducible rfl))
          try simp only [List.setIfInBounds_toArray, List.set_cons_zero, List.set_cons_succ]
          refine heldY 10 33 ?_ _ rfl rfl (by kernel_rfl) (by kernel_rfl) (by kernel_rfl) (fun _ _ _ h => h) rfl (by assumption) ?_ ?_
          rotate_left
          · (intro w hSw; (try dsimp only at hSw); go_simp; (try with_reducible rfl))
          try simp only [List.setIfInBounds_toArray, List.set_cons_zero, List.set_cons_succ]
          refine heldY 11 34 ?_ _ rfl rfl (by kernel_rfl) (by kernel_rfl) (by kernel_rfl) (fun _ _ _ h => h) rfl (by assumption) ?_ ?_
          rotate_left
          · (intro w hSw; (try dsimp only at hSw); go_simp; (try with_reducible rfl))
          try simp only [List.setIfInBounds_toArray, List.set_cons_zero, List.set_cons_succ]
          refine heldY 12 35 ?_ _ rfl rfl (by kernel_rfl) (by kernel_rfl) (by kernel_rfl) (fun _ _ _ h => h) rfl (by assumption) ?_ ?_
          rotate_left
          · (intro w hSw; (try dsimp only at hSw); go_simp; (try with_reducible rfl))
          try simp only [List.setIfInBounds_toArray, List.set_cons_zero, List.set_cons_succ]
          refine heldY 13 36 ?_ _ rfl rfl (by kernel_rfl) (by kernel_rfl) (by kernel_rfl) (fun _ _ _ h => h) rfl (by assumption) ?_ ?_
          rotate_left
          · (intro w hSw; (try dsimp only at hSw); go_simp; (try with_reducible rfl))
          try simp only [List.setIfInBounds_toArray, List.set_cons_zero, List.set_cons_succ]
          refine heldY 14 37 ?_ _ rfl rfl (by kernel_rfl) (by kernel_rfl) (by kernel_rfl) (fun _ _ _ h => h) rfl (by assumption) ?_ ?_
          rotate_left
          · (intro w hSw; (try dsimp only at hSw); go_simp; (try with_reducible rfl))
          try simp only [List.setIfInBounds_toArray, List.set_cons_zero, List.set_cons_succ]
          refine heldY 15 38 ?_ _ rfl rfl (by kernel_rfl) (by kernel_rfl) (by kernel_rfl) (fun _ _ _ h => h) rfl (by assumption) ?_ ?_
          rotate_left
          · (intro w hSw; (try dsimp only at hSw); go_simp; (try with_reducible rfl))
          try simp only [List.setIfInBounds_toArray, List.set_cons_zero, List.set_cons_succ]
          refine heldY 16 39 ?_ _ rfl rfl (by kernel_rfl) (by kernel_rfl) (by kernel_rfl) (fun _ _ _ h => h) rfl (by assumption) ?_ ?_
          rotate_left
          · (intro w hSw; (try dsimp only at hSw); go_simp; (try with_reducible rfl))
          try simp only [List.setIfInBounds_toArray, List.set_cons_zero, List.set_cons_succ]
          refine heldY 17 40 ?_ _ rfl rfl (by kernel_rfl) (by kernel_rfl) (by kernel_rfl) (fun _ _ _ h => h) rfl (by assumption) ?_ ?_
          rotate_left
          · (intro w hSw; (try dsimp only at hSw); go_simp; (try with_reducible rfl))
          try simp only [List.setIfInBounds_toArray, List.set_cons_zero, List.set_cons_succ]
          refine heldY 18 41 ?_ _ rfl rfl (by kernel_rfl) (by kernel_rfl) (by kernel_rfl) (fun _ _ _ h => h) rfl (by assumption) ?_ ?_
          rotate_left
          · (intro w hSw; (try dsimp only at hSw); go_simp; (try with_reducible rfl))
          try simp only [List.setIfInBounds_toArray, List.set_cons_zero, List.set_cons_succ]
          refine heldY 19 42 ?_ _ rfl rfl (by kernel_rfl) (by kernel_rfl) (by kernel_rfl) (fun _ _ _ h => h) rfl (by assumption) ?_ ?_
          rotate_left
          · (intro w hSw; (try dsimp only at hSw); go_simp; (try with_reducible rfl))
          try simp only [List.setIfInBounds_toArray, List.set_cons_zero, List.set_cons_succ]
          refine heldY 20 43 ?_ _ rfl rfl (by kernel_rfl) (by kernel_rfl) (by kernel_rfl) (fun _ _ _ h => h) rfl (by assumption) ?_ ?_
          rotate_left
          · (intro w hSw; (try dsimp only at hSw); go_simp; (try with_reducible rfl))
          try simp only [List.setIfInBounds_toArray, List.set_cons_zero, List.set_cons_succ]
          refine heldY 21 44 ?_ _ rfl rfl (by kernel_rfl) (by kernel_rfl) (by kernel_rfl) (fun _ _ _ h => h) rfl (by assumption) ?_ ?_
          rotate_left
          · (intro w hSw; (try dsimp only at hSw); go_simp; (try with_reducible rfl))
          try simp only [List.setIfInBounds_toArray, List.set_cons_zero, List.set_cons_succ]
          refine heldY 22 45 ?_ _ rfl rfl (by kernel_rfl) (by kernel_rfl) (by kernel_rfl) (fun _ _ _ h => h) rfl (by assumption) ?_ ?_
          rotate_left
          · (intro w hSw; (try dsimp only at hSw); go_simp; (try with_reducible rfl))
          try simp only [List.setIfInBounds_toArray, List.set_cons_zero, List.set_cons_succ]
          refine heldY 23 46 ?_ _ rfl rfl (by kernel_rfl) (by kernel_rfl) (by kernel_rfl) (fun _ _ _ h => h) rfl (by assumption) ?_ ?_
          rotate_left
          · (intro w hSw; (try dsimp only at hSw); go_simp; (try with_reducible rfl))
          try simp only [List.setIfInBounds_toArray, List.set_cons_zero, List.set_cons_succ]
          refine heldNo 24 47 rfl (by kernel_rfl) (by kernel_rfl) (by kernel_rfl) (fun _ _ _ h => h) rfl (by assumption) ?_
          try simp only [List.setIfInBounds_toArray, List.set_cons_zero, List.set_cons_succ]
          refine heldNo 25 48 rfl (by kernel_rfl) (by kernel_rfl) (by kernel_rfl) (fun _ _ _ h => h) rfl (by assumption) ?_
          try simp only [List.setIfInBounds_toArray, List.set_cons_zero, List.set_cons_succ]
          refine heldNo 26 49 rfl (by kernel_rfl) (by kernel_rfl) (by kernel_rfl) (fun _ _ _ h => h) rfl (by assumption) ?_
          try simp only [List.setIfInBounds_toArray, List.set_cons_zero, List.set_cons_succ]
          refine heldNo 27 50 rfl (by kernel_rfl) (by kernel_rfl) (by kernel_rfl) (fun _ _ _ h => h) rfl (by assumption) ?_
          try simp only [List.setIfInBounds_toArray, List.set_cons_zero, List.set_cons_succ]
          refine heldNo 28 51 rfl (by kernel_rfl) (by kernel_rfl) (by kernel_rfl) (fun _ _ _ h => h) rfl (by assumption) ?_
          try simp only [List.setIfInBounds_toArray, List.set_cons_zero, List.set_cons_succ]
          refine heldNo 29 52 rfl (by kernel_rfl) (by kernel_rfl) (by kernel_rfl) (fun _ _ _ h => h) rfl (by assumption) ?_
          try simp only [List.setIfInBounds_toArray, List.set_cons_zero, List.set_cons_succ]
          refine heldNo 30 53 rfl (by kernel_rfl) (by kernel_rfl) (by kernel_rfl) (fun _ _ _ h => h) rfl (by assumption) ?_
          try simp only [List.setIfInBounds_toArray, List.set_cons_zero, List.set_cons_succ]
          refine heldNo 31 54 rfl (by kernel_rfl) (by kernel_rfl) (by kernel_rfl) (fun _ _ _ h => h) rfl (by assumption) ?_
          try simp only [List.setIfInBounds_toArray, List.set_cons_zero, List.set_cons_succ]
          refine heldNo 32 55 rfl (by kernel_rfl) (by kernel_rfl) (by kernel_rfl) (fun _ _ _ h => h) rfl (by assumption) ?_
          try simp only [List.setIfInBounds_toArray, List.set_cons_zero, List.set_cons_succ]
          refine heldNo 33 56 rfl (by kernel_rfl) (by kernel_rfl) (by kernel_rfl) (fun _ _ _ h => h) rfl (by assumption) ?_
          try simp only [List.setIfInBounds_toArray, List.set_cons_zero, List.set_cons_succ]
          refine heldNo 34 57 rfl (by kernel_rfl) (by kernel_rfl) (by kernel_rfl) (fun _ _ _ h => h) rfl (by assumption) ?_
          try simp only [List.setIfInBounds_toArray, List.set_cons_zero, List.set_cons_succ]
          refine heldY 35 58 ?_ _ rfl rfl (by kernel_rfl) (by kernel_rfl) (by kernel_rfl) (fun _ _ _ h => h) rfl (by assumption) ?_ ?_
          rotate_left
          · (intro w hSw; (try dsimp only at hSw); go_simp; (try with_reducible rfl))
          try simp only [List.setIfInBounds_toArray, List.set_cons_zero, List.set_cons_succ]
          refine heldY 36 59 ?_ _ rfl rfl (by kernel_rfl) (by kernel_rfl) (by kernel_rfl) (fun _ _ _ h => h) rfl (by assumption) ?_ ?_
          rotate_left
          · (intro w hSw; (try dsimp only at hSw); go_simp; (try with_reducible rfl))
          try simp only [List.setIfInBounds_toArray, List.set_cons_zero, List.set_cons_succ]
          refine wpAnyH_done (by kernel_rfl) ?_ _
          have HW3 := Lib.hid (BE _ hHeld)
          clear hHeld
          go_wp2
          go_roundw
          case rel => exact ⟨k + 1, by omega, by go_num, HW3⟩
          case measure => simp [intOf]; omega
      · obtain rfl : k = n := by omega
        clear hlt
        go_wp2_with (go_at_call 10; (with_reducible refine (AW _ HB.out).mono ?_); rintro e w6 ⟨rfl, hb⟩; have HB6 := Lib.hid (HB.out.trans (hb.mono HB.out.size)); clear hb)
        go_ret
        exact ⟨rfl, HB6.out⟩
end Go.Proofs.YtnfhccnicojdcaaGreatDoor.altsBestw

