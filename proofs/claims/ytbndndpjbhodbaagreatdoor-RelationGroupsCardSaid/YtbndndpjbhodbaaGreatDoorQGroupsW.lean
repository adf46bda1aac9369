/-
  The law RelationGroups, walked: true; nothing old turns. Condition: LaidQ.
-/
import Derived.Test.YtbndndpjbhodbaaGreatDoorQListsW
namespace Go.Proofs.YtbndndpjbhodbaaGreatDoor.relationGroupsw
open Go.RowKit relationListsw
theorem splitN_text {α : Type} {text : α → Bs} {sep : Bs} (h0 : 0 < sep.length) {xs : List α} (hne : xs ≠ []) (hl : xs.length ≤ 64) (ha : ∀ x ∈ xs, Apart sep (text x) ∧ Lone sep (text x)) : Lib.splitN (Lib.join (xs.map text) sep) sep 65 = xs.map text := by
  have hj := join_len sep (xs.map text)
  rw [List.length_map] at hj
  have hj2 : xs.length ≤ (Lib.join (xs.map text) sep).length + 1 := by
    rcases hj with h | h
    · exact h
    · rw [h] at h0; simp at h0
  unfold Lib.splitN
  refine split_join sep h0 _ _ (by simpa using hne) (by rw [List.length_map]; omega) (fun p hp => ?_)
  obtain ⟨x, hx, rfl⟩ := List.mem_map.1 hp
  exact ha x hx
theorem vGr_len : ∀ (g : List Rl), g.length ≤ vGr g
  | [] => by simp
  | x :: g => by
    have := vGr_len g
    simp only [vGr, List.map_cons, List.sum_cons, List.length_cons, vQ] at *; omega
theorem textG_few (g : List Rl) : (textG g).length ≤ 7 * vGr g := by
  have h4 := join_sum sepG (g.map textR)
  have h5 := sum_text g
  have h7 := vGr_len g
  rw [List.length_map] at h4
  have h6 : sepG.length = 3 := rfl
  rw [h6] at h4
  unfold textG; omega
theorem sum_textG : ∀ (l : List Gv), (((fsts l).map textG).map List.length).sum ≤ 7 * vGs l
  | [] => by simp
  | x :: l => by
    have ih := sum_textG l
    have := textG_few x.1
    simp only [vGs, fsts, List.map_cons, List.sum_cons] at *; omega
theorem textA_few {l : List Gv} (h : FewG l) : (textA (fsts l)).length ≤ 30000 := by
  have h4 := join_sum sepA ((fsts l).map textG)
  have h5 := sum_textG l
  have h1 := h.n
  have h2 := h.v
  rw [List.length_map, List.length_map] at h4
  have h6 : sepA.length = 2 := rfl
  rw [h6] at h4
  unfold textA; omega
theorem pieces_few {l : List Gv} (h : FewG l) (hr : RightA (fsts l)) : ∀ p ∈ Lib.splitN (textA (fsts l)) sepA 65, p.length ≤ 100000 ∧ ∀ q ∈ Lib.splitN p sepG 65, q.length ≤ 4000 := fun p hp => by
  have h3 := textA_few h
  have hpl : p.length ≤ (textA (fsts l)).length := by unfold Lib.splitN at hp; exact splitK_piece _ _ _ p hp
  refine ⟨by omega, fun q hq => ?_⟩
  by_cases h0 : fsts l = []
  · have : q.length ≤ p.length := by unfold Lib.splitN at hq; exact splitK_piece _ _ _ q hq
    rw [h0] at hpl
    have e : (textA []).length = 0 := rfl
    omega
  · have e := splitN_text (text := textG) (sep := sepA) (by decide) h0 hr.1 (fun g hg => ⟨apart_first (textG_44 (hr.2 g hg)), lone_first (textG_44 (hr.2 g hg))⟩)
    have e' : Lib.splitN (textA (fsts l)) sepA 65 = (fsts l).map textG := e
    rw [e'] at hp
    obtain ⟨g, hg, rfl⟩ := List.mem_map.1 hp
    have hgr := hr.2 g hg
    have e2 := splitN_text (text := textR) (sep := sepG) (by decide) hgr.1 hgr.2.1 (fun x hx => ⟨apart_second (text_odd odd124 (hgr.2.2 x hx)) (by decide), lone_second (text_odd odd124 (hgr.2.2 x hx))⟩)
    have e2' : Lib.splitN (textG g) sepG 65 = g.map textR := e2
    rw [e2'] at hq
    obtain ⟨x, hx, rfl⟩ := List.mem_map.1 hq
    obtain ⟨y, hy, rfl⟩ := List.mem_map.1 hg
    have a1 := vGs_mem hy
    have a2 := vGr_mem hx
    have a3 := textR_le x
    have a4 := h.v
    omega
theorem allE_zero {l : List (List Rl)} (h : (allE l).2 = 0) : RightA l ∧ (allE l).1 = textA l := by
  unfold allE at *
  cases g : (decide (64 < l.length) || l.any longG)
  · rw [g] at h
    rw [if_neg (by simp)] at h ⊢
    cases r : l.any badG
    · rw [r] at h
      rw [if_neg (by simp)] at h ⊢
      rw [Bool.or_eq_false_iff, decide_eq_false_iff_not, List.any_eq_false] at g
      rw [List.any_eq_false] at r
      refine ⟨⟨by omega, fun x hx => ?_⟩, rfl⟩
      have r1 := r x hx
      have g1 := g.2 x hx
      simp only [badG, longG, Bool.or_eq_true, decide_eq_true_eq, Bool.not_eq_true', not_or, Bool.not_eq_false] at r1 g1
      exact ⟨fun e => r1.1 (by rw [e]; rfl), by omega, fun y hy => List.all_eq_true.1 r1.2 y hy⟩
    · rw [r, if_pos rfl] at h; exact absurd h (by decide)
  · rw [g, if_pos rfl] at h; exact absurd h (by decide)
set_option maxRecDepth 100000 in
set_option maxHeartbeats 8000000 in
theorem walk (v : Value) (l : List Gv) (w : World) (h : HoldGs w v l) (hL : LaidQ w) : Calls Tryz.prog 4 #[v] w fun e w' => e = .returned (.bool true) ∧ Below w.heap.size w w' := by
  have A7 := fun W h => awake7 W h
  have FW := few_any _ _ _ h
  have HB0 := Lib.hid (Below.refl w.heap.size w)
  have HL := Lib.hid hL
  have LQ := fun W (hf : FewG l) (hb : Below w.heap.size w W) => all_any v l (by have := hf.n; omega) hf.small W (h.on hb) (hL.on hb).v
  have LR := fun W (hf : FewG l) (hb : Below w.heap.size w W) => allE_ref v l (by have := hf.n; omega) hf.small W (h.on hb)
  have HPL : Hid (∀ W, FewG l → Below w.heap.size w W → (allE (fsts l)).2 = 0 → Calls Tryz.prog 19 #[.string (bsT (allE (fsts l)).1)] W (fun e w' => ∃ a n c M, e = .returned (.tuple #[.slice a n c, .int .i64 0]) ∧ fsts M = fsts l ∧ OwnGs w' W.heap.size (.slice a n c) M ∧ Below W.heap.size W w')) := Lib.hid (fun W hf hb hz => by
    obtain ⟨hr, ht⟩ := allE_zero hz
    have h3 := textA_few hf
    rw [ht]
    have P := parseAllQ_any (bsT (textA (fsts l))) (by rw [sizeOf, bytesOf]; omega) (by rw [bytesOf]; exact pieces_few hf hr) W (hL.on hb)
    rw [bytesOf, parseA_text hr] at P
    exact P.mono (fun e w' hp => cutPostG_some hp))
  have HSM : Hid (∀ u M W, FewG l → Below w.heap.size w W → fsts M = fsts l → HoldGs W u M → Calls Tryz.prog 20 #[u, v] W fun e w' => e = .returned (.bool true) ∧ Below W.heap.size W w') := Lib.hid (fun u M W hf hb hm hu => by
    have hlen : M.length = l.length := by have := congrArg List.length hm; simpa [fsts] using this
    have hn := hf.n
    exact sameG_ref u v M l hm (by omega) (fun p hp => by
      have : p.1 ∈ fsts l := by rw [← hm]; exact List.mem_map_of_mem hp
      obtain ⟨y, hy, e⟩ := List.mem_map.1 this
      have := hf.ns y hy
      have e' : y.1 = p.1 := e
      rw [← e']; omega) W hu (h.on hb))
  unfold TwoP at LQ LR
  obtain ⟨a, c, b, o, rfl, -⟩ := h.parts
  clear h hL
  obtain ⟨z, hz⟩ : ∃ z, (allE (fsts l)).2 = z := ⟨_, rfl⟩
  obtain ⟨S, hS⟩ : ∃ S, bsT (allE (fsts l)).1 = S := ⟨_, rfl⟩
  rw [hz, hS] at LQ LR HPL
  have hq := eqT S S
  rw [decide_eq_true rfl] at hq
  clear hz hS
  by_cases h0 : z = 0
  · subst h0
    have HPZ := Lib.hid (fun W hf hb => HPL.out W hf hb rfl)
    clear HPL
    go_enter Tryz.func4, Tryz.ntmps4
    go_wp2_with (first
      | (go_at_call 8; (with_reducible refine FW.mono ?_); rintro e w1 ⟨fb, rfl, hfb, hb⟩; have HB1 := Lib.hid (HB0.out.trans (hb.mono HB0.out.size)); have HFB := Lib.hid hfb; clear hb FW hfb; cases fb)
      | (go_at_call 9; (with_reducible refine (A7 _ (HL.out.on HB1.out)).mono ?_); rintro e w2 ⟨rfl, hb⟩; have HB9 := Lib.hid (HB1.out.trans (hb.mono HB1.out.size)); clear hb)
      | (go_at_call 17; (with_reducible refine (LQ _ (HFB.out trivial) HB1.out).mono ?_); rintro e w2 ⟨rfl, hb⟩; have HB2 := Lib.hid (HB1.out.trans (hb.mono HB1.out.size)); clear hb LQ)
      | (go_at_call 18; (with_reducible refine (LR _ (HFB.out trivial) HB2.out).mono ?_); rintro e w3 ⟨rfl, hb⟩; have HB3 := Lib.hid (HB2.out.trans (hb.mono HB2.out.size)); clear hb LR)
      | (go_at_call 19; (with_reducible refine (HPZ.out _ (HFB.out trivial) HB3.out).mono ?_); rintro e w4 ⟨ba, bn, bc, M, rfl, hm, ho, hb⟩; have HO4 := Lib.hid ho.holds; have HM4 := Lib.hid hm; have HB4 := Lib.hid (HB3.out.trans (hb.mono HB3.out.size)); clear hb ho hm)
      | (go_at_call 20; (with_reducible refine (HSM.out _ M _ (HFB.out trivial) HB4.out HM4.out HO4.out).mono ?_); rintro e w5 ⟨rfl, hb⟩; have HB5 := Lib.hid (HB4.out.trans (hb.mono HB4.out.size)); clear hb)
      | (go_at_call 9; (with_reducible refine (A7 _ (HL.out.on HB5.out)).mono ?_); rintro e w6 ⟨rfl, hb⟩; have HB9 := Lib.hid (HB5.out.trans (hb.mono HB5.out.size)); clear hb))
    all_goals
      go_ret
      exact ⟨rfl, HB9.out⟩
  · have hz1 : (z == 0) = false := by rw [beq_eq_false_iff_ne]; exact h0
    have hz2 : (z == z) = true := by simp
    clear h0 HPL HSM
    go_enter Tryz.func4, Tryz.ntmps4
    go_wp2_with (first
      | (go_at_call 8; (with_reducible refine FW.mono ?_); rintro e w1 ⟨fb, rfl, hfb, hb⟩; have HB1 := Lib.hid (HB0.out.trans (hb.mono HB0.out.size)); have HFB := Lib.hid hfb; clear hb FW hfb; cases fb)
      | (go_at_call 9; (with_reducible refine (A7 _ (HL.out.on HB1.out)).mono ?_); rintro e w2 ⟨rfl, hb⟩; have HB9 := Lib.hid (HB1.out.trans (hb.mono HB1.out.size)); clear hb)
      | (go_at_call 17; (with_reducible refine (LQ _ (HFB.out trivial) HB1.out).mono ?_); rintro e w2 ⟨rfl, hb⟩; have HB2 := Lib.hid (HB1.out.trans (hb.mono HB1.out.size)); clear hb LQ)
      | (go_at_call 18; (with_reducible refine (LR _ (HFB.out trivial) HB2.out).mono ?_); rintro e w3 ⟨rfl, hb⟩; have HB3 := Lib.hid (HB2.out.trans (hb.mono HB2.out.size)); clear hb LR)
      | (go_at_call 9; (with_reducible refine (A7 _ (HL.out.on HB3.out)).mono ?_); rintro e w4 ⟨rfl, hb⟩; have HB9 := Lib.hid (HB3.out.trans (hb.mono HB3.out.size)); clear hb))
    all_goals
      go_ret
      exact ⟨rfl, HB9.out⟩
end Go.Proofs.YtbndndpjbhodbaaGreatDoor.relationGroupsw
