/-
  The law RelationLists, walked: true; nothing old turns. Condition: LaidQ.
-/
import Derived.Test.YtbndndpjbhodbaaGreatDoorQOnes
namespace Go.Proofs.YtbndndpjbhodbaaGreatDoor.relationListsw
open Go.RowKit
theorem textR_le (x : Rl) : (textR x).length ≤ vQ x + 3 := by
  unfold textR vQ
  split
  · omega
  · simp; omega
theorem join_sum (sep : Bs) : ∀ (ps : List Bs), (Lib.join ps sep).length ≤ (ps.map List.length).sum + ps.length * sep.length
  | [] => by simp [Lib.join, List.intercalate]
  | [p] => by rw [Lib.join_one]; simp
  | p :: q :: ps => by
    have ih := join_sum sep (q :: ps)
    rw [join_two, List.length_append, List.length_append, List.map_cons, List.sum_cons, List.length_cons, Nat.add_mul]
    omega
theorem sum_text : ∀ (g : List Rl), ((g.map textR).map List.length).sum ≤ vGr g + 3 * g.length
  | [] => by simp
  | x :: g => by
    have ih := sum_text g
    have := textR_le x
    simp only [vGr, List.map_cons, List.sum_cons, List.length_cons] at *; omega
theorem textQ_few {l : List Rl} {v : Value} (h : FewG [(l, v)]) : l.length ≤ 70 ∧ SmallQ l ∧ (textQ l).length ≤ 4000 := by
  have h1 : l.length ≤ 70 := h.ns (l, v) (by simp)
  have h2 : vGr l ≤ 3000 := by have := h.v; simpa [vGs] using this
  have h3 : SmallQ l := (h.small (l, v) (by simp)).1
  refine ⟨h1, h3, ?_⟩
  have h4 := join_sum sepA (l.map textR)
  have h5 := sum_text l
  rw [List.length_map] at h4
  have h6 : sepA.length = 2 := rfl
  unfold textQ
  rw [h6] at h4
  omega
theorem listE_zero {l : List Rl} (h : (listE l).2 = 0) : RightL l ∧ (listE l).1 = textQ l := by
  unfold listE at *
  by_cases g : 64 < l.length
  · rw [if_pos g] at h; exact absurd h (by decide)
  · rw [if_neg g] at h ⊢
    by_cases r : l.all rightR = true
    · rw [if_pos r] at h ⊢
      exact ⟨⟨by omega, fun x hx => List.all_eq_true.1 r x hx⟩, rfl⟩
    · rw [if_neg r] at h; exact absurd h (by decide)
theorem hold_wrap {w : World} {v : Value} {l : List Rl} (h : HoldQ w v l) : HoldGs (w.alloc (.cells #[v] 25)) (.slice (some ⟨w.heap.size, 0, none⟩) 1 1) [(l, v)] := by
  have y0 := boxV1 w v 25
  have B := (Below.refl w.heap.size w).alloc (Nat.le_refl _) (.cells #[v] 25)
  refine ⟨⟨some ⟨w.heap.size, 0, none⟩, 1, w.heap.size, 0, rfl, by simp, fun _ => ⟨rfl, by simp⟩, fun j r hj i y hi hy => ?_⟩, fun x hx => ?_⟩
  · match j, hj with
    | 0, hj =>
      simp at hj; subst hj
      match i, hi, hy with
      | 0, _, hy => simp at hy; subst hy; simp
    | j + 1, hj => simp at hj
  · rw [List.mem_singleton.1 hx]; exact HoldV.on h B
set_option maxRecDepth 100000 in
set_option maxHeartbeats 8000000 in
theorem walk (v : Value) (l : List Rl) (w : World) (h : HoldQ w v l) (hL : LaidQ w) : Calls Tryz.prog 6 #[v] w fun e w' => e = .returned (.bool true) ∧ Below w.heap.size w w' := by
  have A7 := fun W h => awake7 W h
  have FW := few_any _ _ _ (hold_wrap h)
  have HB0 := Lib.hid ((Below.refl w.heap.size w).alloc (Nat.le_refl _) (.cells #[v] 25))
  have HL := Lib.hid hL
  have LQ := fun W (hf : FewG [(l, v)]) (hb : Below w.heap.size w W) => listQ_any v l (by have := (textQ_few hf).1; omega) (textQ_few hf).2.1 W (HoldV.on h hb) (hL.on hb).v
  have LR := fun W (hf : FewG [(l, v)]) (hb : Below w.heap.size w W) => listE_ref v l (by have := (textQ_few hf).1; omega) (textQ_few hf).2.1 W (HoldV.on h hb)
  have HPL : Hid (∀ W, FewG [(l, v)] → Below w.heap.size w W → (listE l).2 = 0 → Calls Tryz.prog 22 #[.string (bsT (listE l).1)] W (fun e w' => ∃ a c, e = .returned (.tuple #[.slice a l.length c, .int .i64 0]) ∧ OwnQ w' W.heap.size (.slice a l.length c) l ∧ Below W.heap.size W w')) := Lib.hid (fun W hf hb hz => by
    obtain ⟨hr, ht⟩ := listE_zero hz
    have h3 := (textQ_few hf).2.2
    rw [ht]
    have P := parseListQ_any (bsT (textQ l)) (by rw [sizeOf, bytesOf]; omega) (fun p hp => by
      rw [bytesOf] at hp
      unfold Lib.splitN at hp
      have := splitK_piece _ _ _ p hp; omega) W (hL.on hb)
    rw [bytesOf, parseQ_text hr] at P
    exact P.mono (fun e w' hp => cutPost_some hp))
  have HSM : Hid (∀ u W, l.length ≤ 90000 → Below w.heap.size w W → HoldQ W u l → Calls Tryz.prog 24 #[u, v] W fun e w' => e = .returned (.bool true) ∧ Below W.heap.size W w') := Lib.hid (fun u W hl hb hu => (sameQ_ref u v l hl W hu (HoldV.on h hb)).mono (fun _ w' hp => ⟨hp.1, by obtain ⟨q, hq⟩ := hp.2; rw [hq]; exact belowQ (Below.refl _ _) q⟩))
  have HLEN : Hid (FewG [(l, v)] → l.length ≤ 90000) := Lib.hid (fun hf => by have := (textQ_few hf).1; omega)
  unfold TwoP at LQ LR
  obtain ⟨a, c, b, o, rfl, -⟩ := h.parts
  clear h hL
  obtain ⟨z, hz⟩ : ∃ z, (listE l).2 = z := ⟨_, rfl⟩
  obtain ⟨S, hS⟩ : ∃ S, bsT (listE l).1 = S := ⟨_, rfl⟩
  rw [hz, hS] at LQ LR HPL
  have hq := eqT S S
  rw [decide_eq_true rfl] at hq
  clear hz hS
  by_cases h0 : z = 0
  · subst h0
    have HPZ := Lib.hid (fun W hf hb => HPL.out W hf hb rfl)
    clear HPL
    go_enter Tryz.func6, Tryz.ntmps6
    go_wp2_with (first
      | (go_at_call 8; (with_reducible refine FW.mono ?_); rintro e w1 ⟨fb, rfl, hfb, hb⟩; have HB1 := Lib.hid (HB0.out.trans (hb.mono HB0.out.size)); have HFB := Lib.hid hfb; clear hb FW hfb; cases fb)
      | (go_at_call 9; (with_reducible refine (A7 _ (HL.out.on HB1.out)).mono ?_); rintro e w2 ⟨rfl, hb⟩; have HB9 := Lib.hid (HB1.out.trans (hb.mono HB1.out.size)); clear hb)
      | (go_at_call 25; (with_reducible refine (LQ _ (HFB.out trivial) HB1.out).mono ?_); rintro e w2 ⟨rfl, hb⟩; have HB2 := Lib.hid (HB1.out.trans (hb.mono HB1.out.size)); clear hb LQ)
      | (go_at_call 26; (with_reducible refine (LR _ (HFB.out trivial) HB2.out).mono ?_); rintro e w3 ⟨rfl, hb⟩; have HB3 := Lib.hid (HB2.out.trans (hb.mono HB2.out.size)); clear hb LR)
      | (go_at_call 22; (with_reducible refine (HPZ.out _ (HFB.out trivial) HB3.out).mono ?_); rintro e w4 ⟨ba, bc, rfl, ho, hb⟩; have HO4 := Lib.hid ho.holds; have HB4 := Lib.hid (HB3.out.trans (hb.mono HB3.out.size)); clear hb ho)
      | (go_at_call 24; (with_reducible refine (HSM.out _ _ (HLEN.out (HFB.out trivial)) HB4.out HO4.out).mono ?_); rintro e w5 ⟨rfl, hb⟩; have HB5 := Lib.hid (HB4.out.trans (hb.mono HB4.out.size)); clear hb)
      | (go_at_call 9; (with_reducible refine (A7 _ (HL.out.on HB5.out)).mono ?_); rintro e w6 ⟨rfl, hb⟩; have HB9 := Lib.hid (HB5.out.trans (hb.mono HB5.out.size)); clear hb))
    all_goals
      go_ret
      exact ⟨rfl, HB9.out⟩
  · have hz1 : (z == 0) = false := by rw [beq_eq_false_iff_ne]; exact h0
    have hz2 : (z == z) = true := by simp
    clear h0 HPL HSM
    go_enter Tryz.func6, Tryz.ntmps6
    go_wp2_with (first
      | (go_at_call 8; (with_reducible refine FW.mono ?_); rintro e w1 ⟨fb, rfl, hfb, hb⟩; have HB1 := Lib.hid (HB0.out.trans (hb.mono HB0.out.size)); have HFB := Lib.hid hfb; clear hb FW hfb; cases fb)
      | (go_at_call 9; (with_reducible refine (A7 _ (HL.out.on HB1.out)).mono ?_); rintro e w2 ⟨rfl, hb⟩; have HB9 := Lib.hid (HB1.out.trans (hb.mono HB1.out.size)); clear hb)
      | (go_at_call 25; (with_reducible refine (LQ _ (HFB.out trivial) HB1.out).mono ?_); rintro e w2 ⟨rfl, hb⟩; have HB2 := Lib.hid (HB1.out.trans (hb.mono HB1.out.size)); clear hb LQ)
      | (go_at_call 26; (with_reducible refine (LR _ (HFB.out trivial) HB2.out).mono ?_); rintro e w3 ⟨rfl, hb⟩; have HB3 := Lib.hid (HB2.out.trans (hb.mono HB2.out.size)); clear hb LR)
      | (go_at_call 9; (with_reducible refine (A7 _ (HL.out.on HB3.out)).mono ?_); rintro e w4 ⟨rfl, hb⟩; have HB9 := Lib.hid (HB3.out.trans (hb.mono HB3.out.size)); clear hb))
    all_goals
      go_ret
      exact ⟨rfl, HB9.out⟩
end Go.Proofs.YtbndndpjbhodbaaGreatDoor.relationListsw
