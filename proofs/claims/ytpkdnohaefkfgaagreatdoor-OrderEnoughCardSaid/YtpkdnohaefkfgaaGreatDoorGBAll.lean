/-
  relation.All, of relations of any size: what it returns; nothing old turns. Condition: LaidV.
-/
import Derived.Test.YtpkdnohaefkfgaaGreatDoorGBTexts
namespace Go.Proofs.YtpkdnohaefkfgaaGreatDoor
open Go.RowKit
def BigG (l : List Gv) : Prop := ∀ x ∈ l, BigQ x.1 ∧ x.1.length ≤ 500
theorem goodG_right {g : List Rl} (h : ¬ badG g = true) : g.all rightR = true := by
  unfold badG at h
  rw [Bool.or_eq_true, not_or] at h
  simpa using h.2
set_option maxRecDepth 100000 in
set_option maxHeartbeats 16000000 in
theorem allBig_any (v : Value) (l : List Gv) (hl : l.length ≤ 500) (hs : BigG l) (w : World) (h : HoldGs w v l) (hL : LaidV w) : Calls Tryz.prog 41 #[v] w (TwoP (allE (fsts l)) w) := by
  have EN : ∀ args w, (callFunc 65 args).run Tryz.prog w = .ok (.enter 65 args) w := enters_of Tryz.func65 (by kernel_rfl) rfl
  have CF := fun W hb => contG_any 65 #[] EN (fun x => longG x.1) v l (by omega) W (h.on hb) (fun W' x hx _ => by
    obtain ⟨a, c, -, -, e, -⟩ := (h.2 x hx).parts
    have hh := hs x hx
    rw [e]
    have := fullQ_any a x.1.length c (by omega) W'
    simpa [longG] using this)
  have HA : Hid (l.any (fun x => longG x.1) = (fsts l).any longG) := Lib.hid (by rw [List.any_map]; rfl)
  rw [HA.out] at CF
  have JN : (fsts l).any badG = false → ∀ W, Below w.heap.size w W → Calls Tryz.prog 67 #[v, .string ⟨#[44, 32]⟩, .func (.func 68) #[] #[]] W fun e w' => e = .returned (.string (bsT (Lib.join (l.map gtx) (ByteArray.mk #[44, 32]).data.toList))) ∧ Below W.heap.size W w' := fun hq W hb =>
    joinedG_any ⟨#[44, 32]⟩ (by decide) v l (by omega) (fun x hx => ⟨smallQ_right (goodG_right (List.any_eq_false.1 hq x.1 (List.mem_map_of_mem hx))), (hs x hx).2⟩) W (h.on hb)
  obtain ⟨a, c, b, o, rfl, hc, ha, hcell⟩ := h.parts
  have FU := fun W => fullG_any a l.length c (by omega) W
  obtain ⟨R, hR⟩ : ∃ R, bsT (Lib.join (l.map gtx) (ByteArray.mk #[44, 32]).data.toList) = R := ⟨_, rfl⟩
  rw [hR] at JN
  have HRA : Hid (R = bsT (textA (fsts l))) := Lib.hid (by rw [← hR]; unfold textA; rw [List.map_map]; rfl)
  have hfl : (fsts l).length = l.length := List.length_map ..
  have HE : Hid (allE (fsts l) = if decide (64 < l.length) || (fsts l).any longG then ([], 22) else if (fsts l).any badG then ([], 1) else (textA (fsts l), 0)) := Lib.hid (by unfold allE; rw [hfl])
  have HC := Lib.hid hcell
  have HG := Lib.hid h
  have HS := Lib.hid hs
  have HL := Lib.hid hL
  obtain ⟨n, hN⟩ : ∃ n, l.length = n := ⟨_, rfl⟩
  rw [hN] at hc ha hl FU HE CF JN ⊢
  have HN := Lib.hid hN
  clear hcell hN h hs hL hR hfl EN
  obtain ⟨f1, hf1⟩ : ∃ f1, decide (64 < n) = f1 := ⟨_, rfl⟩
  obtain ⟨f2, hf2⟩ : ∃ f2, (fsts l).any longG = f2 := ⟨_, rfl⟩
  rw [hf1] at FU HE
  rw [hf2] at CF HE
  clear hf1 hf2
  by_cases hf : f1 = true
  · subst hf
    have HP : Hid (∀ w', Below w.heap.size w w' → TwoP (allE (fsts l)) w (.returned (.tuple #[.string ⟨#[]⟩, .int .i64 22])) w') := Lib.hid (fun w' hb => ⟨by rw [HE.out, if_pos (by simp)], hb⟩)
    clear HE CF JN
    go_enter Tryz.func41, Tryz.ntmps41
    go_wp2_with (go_at_call 63; (with_reducible refine (FU _).mono ?_); rintro e w1 ⟨rfl, hb⟩; have HB := Lib.hid hb; clear hb)
    go_ret2
    exact HP.out _ HB.out
  obtain rfl : f1 = false := by cases f1 <;> simp_all
  clear hf
  cases f2
  case true =>
    have HP : Hid (∀ w', Below w.heap.size w w' → TwoP (allE (fsts l)) w (.returned (.tuple #[.string ⟨#[]⟩, .int .i64 22])) w') := Lib.hid (fun w' hb => ⟨by rw [HE.out, if_pos (by simp)], hb⟩)
    clear HE JN
    go_enter Tryz.func41, Tryz.ntmps41
    go_wp2_with (first
      | (go_at_call 63; (with_reducible refine (FU _).mono ?_); rintro e w1 ⟨rfl, hb⟩; have HB := Lib.hid hb; clear hb)
      | (go_at_call 64; (with_reducible refine (CF _ HB.out).mono ?_); rintro e w2 ⟨rfl, hb⟩; have HB2 := Lib.hid (HB.out.trans (hb.mono HB.out.size)); clear hb))
    go_ret2
    exact HP.out _ HB2.out
  case false =>
    have H1 : Hid ((fsts l).any badG = true → ∀ w', Below w.heap.size w w' → TwoP (allE (fsts l)) w (.returned (.tuple #[.string ⟨#[]⟩, .int .i64 1])) w') := Lib.hid (fun hq w' hb => ⟨by rw [HE.out, if_neg (by simp), if_pos hq], hb⟩)
    have H0 : Hid ((fsts l).any badG = false → ∀ w', Below w.heap.size w w' → TwoP (allE (fsts l)) w (.returned (.tuple #[.string R, .int .i64 0])) w') := Lib.hid (fun hq w' hb => ⟨by rw [HE.out, if_neg (by simp), if_neg (by rw [hq]; simp), HRA.out], hb⟩)
    clear HE HRA
    go_enter Tryz.func41, Tryz.ntmps41
    go_wp2_with (first
      | (go_at_call 63; (with_reducible refine (FU _).mono ?_); rintro e w1 ⟨rfl, hb⟩; have HB := Lib.hid hb; clear hb)
      | (go_at_call 64; (with_reducible refine (CF _ HB.out).mono ?_); rintro e w2 ⟨rfl, hb⟩; have HB2 := Lib.hid (HB.out.trans (hb.mono HB.out.size)); clear hb))
    clear CF FU
    go_loopw [14] (fun i wr => ∃ k : Nat, k ≤ n ∧ i = .int .i64 k ∧ Hid (∀ (j : Nat) y, j < k → l[j]? = some y → badG y.1 = false) ∧ Hid (Below w.heap.size w wr)) (fun i _ => n - (intOf i).toNat)
    case atStart => exact ⟨0, by omega, rfl, Lib.hid (fun j y hj => by omega), HB2⟩
    case round =>
      obtain ⟨k, hk, rfl, H, HB3⟩ := hrel
      have hsz := HB3.out.size
      by_cases hlt : k < n
      · obtain ⟨rfl, hbw⟩ := ha (by omega)
        obtain ⟨⟨g0, sv⟩, hx⟩ : ∃ x, l[k]? = some x := ⟨_, List.getElem?_eq_getElem (by rw [HN.out]; exact hlt)⟩
        have hgx := HG.out.2 _ (List.mem_of_getElem? hx)
        have hsm := HS.out _ (List.mem_of_getElem? hx)
        have c0 := HC.out k _ hx
        dsimp only at c0 hsm hgx
        rw [← HB3.out.cell (p := ⟨b, o + k, none⟩) hbw] at c0
        have AR := allRightBig_any sv g0 (by omega) hsm.1 wr (HoldV.on hgx HB3.out) (HL.out.on HB3.out)
        obtain ⟨sa, sc, -, -, hsv, -⟩ := hgx.parts
        subst hsv
        have HX := Lib.hid hx
        have HNX : Hid (badG g0 = false → ∀ (j : Nat) y, j < k + 1 → l[j]? = some y → badG y.1 = false) := Lib.hid (fun hq j y hj hy => by
          by_cases e : j = k
          · subst e
            rw [HX.out] at hy; cases hy
            exact hq
          · exact H.out j y (by omega) hy)
        have HBD : Hid (badG g0 = true → ∀ w', Below w.heap.size w w' → TwoP (allE (fsts l)) w (.returned (.tuple #[.string ⟨#[]⟩, .int .i64 1])) w') := Lib.hid (fun hq => H1.out (bad_hit HX.out hq))
        clear hx hgx H
        by_cases h0 : g0.length = 0
        · have G := Lib.hid (HBD.out (by unfold badG; rw [decide_eq_true h0]; rfl))
          have e1 : ((g0.length : Int) == 0) = true := by rw [h0]; rfl
          clear AR HNX HBD
          generalize g0.length = gn at *
          clear h0
          go_wp2
          go_ret2
          exact G.out _ HB3.out
        · have e1 : ((g0.length : Int) == 0) = false := by rw [beq_eq_false_iff_ne]; omega
          have hbg : badG g0 = !g0.all rightR := by unfold badG; rw [decide_eq_false h0, Bool.false_or]
          cases hr : g0.all rightR
          · rw [hr] at AR hbg
            have G := Lib.hid (HBD.out hbg)
            clear HNX HBD hbg hr
            generalize g0.length = gn at *
            clear h0
            go_wp2_with (go_at_call 66; (with_reducible refine AR.mono ?_); rintro e w4 ⟨rfl, hb⟩; have HB4 := Lib.hid (HB3.out.trans (hb.mono hsz)); clear hb AR)
            go_ret2
            exact G.out _ HB4.out
          · rw [hr] at AR hbg
            have G := Lib.hid (HNX.out hbg)
            clear HNX HBD hbg hr
            generalize g0.length = gn at *
            clear h0
            go_wp2_with (go_at_call 66; (with_reducible refine AR.mono ?_); rintro e w4 ⟨rfl, hb⟩; have HB4 := Lib.hid (HB3.out.trans (hb.mono hsz)); clear hb AR)
            go_roundw
            case rel => exact ⟨k + 1, by omega, by go_num, G, HB4⟩
            case measure => simp [intOf]; omega
      · obtain rfl : k = n := by omega
        have G := Lib.hid (H0.out (bad_miss (fun j y hy => H.out j y (by have := (List.getElem?_eq_some_iff.1 hy).1; rw [HN.out] at this; exact this) hy)))
        have JQ := JN (bad_miss (fun j y hy => H.out j y (by have := (List.getElem?_eq_some_iff.1 hy).1; rw [HN.out] at this; exact this) hy))
        clear hlt H H0 H1 JN
        go_wp2_with (go_at_call 67; (with_reducible refine (JQ _ HB3.out).mono ?_); rintro e w4 ⟨rfl, hb⟩; have HB4 := Lib.hid (HB3.out.trans (hb.mono hsz)); clear hb)
        go_ret2
        exact G.out _ HB4.out
end Go.Proofs.YtpkdnohaefkfgaaGreatDoor
