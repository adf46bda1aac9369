/-
  The program's Words: what it returns; nothing old turns.
-/
import Derived.Test.YtceohgjfjndcmaaGreatDoorSPWords
namespace Go.Proofs.YtceohgjfjndcmaaGreatDoor
open Go.RowKit Go.Shelf
attribute [local go_sem] Oper.semAt_some
def keptW (ys : List WordX) : List WordX := ys.filter fun x => decide (x.1.size ≠ 0)
def txtW (x : WordX) : Value := .string x.1
theorem keptW_snoc (ys : List WordX) (x : WordX) : keptW (ys ++ [x]) = if x.1.size = 0 then keptW ys else keptW ys ++ [x] := by
  unfold keptW
  rw [List.filter_append]
  by_cases h : x.1.size = 0
  · rw [if_pos h, List.filter_cons, if_neg (by rw [decide_eq_true_eq]; exact fun g => g h)]; simp
  · rw [if_neg h, List.filter_cons, if_pos (by rw [decide_eq_true_eq]; exact h)]; simp
theorem keptW_len (ys : List WordX) : (keptW ys).length ≤ ys.length := List.length_filter_le _ _
theorem txtW_of (ys : List WordX) : ys.map txtW = txts (ys.map wdOf) := by
  unfold txts
  rw [List.map_map]
  refine congrArg (fun g => List.map g ys) (funext fun x => ?_)
  show Value.string x.1 = Value.string ⟨(x.1.data.toList).toArray⟩
  rw [← strOf (x := x.1) rfl]
theorem keptW_words {s : Bs} {ys : List WordX} (h : AllW s ys) : (keptW ys).map wdOf = wordsL s := by
  unfold wordsL keptW AllW at *
  rw [← h, List.filter_map]
  congr 1
  refine List.filter_congr fun x _ => ?_
  have hx := sizeOf x.1
  show decide (x.1.size ≠ 0) = decide (x.1.data.toList ≠ [])
  rw [decide_eq_decide]
  constructor
  · intro e g; exact e (by rw [hx, g]; rfl)
  · intro e g; exact e (List.eq_nil_of_length_eq_zero (by omega))
def PWordsPost (s : Bs) (w : World) (e : Ending) (w' : World) : Prop := ∃ v, e = .returned v ∧ OwnT w' w.heap.size v (wordsL s) ∧ Below w.heap.size w w'
/-- What holds between two rounds. -/
def InW (w : World) (pre : List WordX) (W : World) : Prop := (∃ v, Boxed W w.heap.size 56 v ∧ W.ownsRow (w.heap.size + 4) 9 1 v (keptW pre).length ((keptW pre).map txtW) ∧ True) ∧ Below w.heap.size w W ∧ w.heap.size + 4 ≤ W.heap.size
theorem InW.set {w : World} {pre : List WordX} {W : World} (h : InW w pre W) (u : Value) : InW w pre (W.setCell ⟨w.heap.size + 1, 0, none⟩ u) := by
  obtain ⟨⟨v, h1, h2, -⟩, h3, h4⟩ := h
  have g := grownBy_setCell' W (w.heap.size + 1) u
  refine ⟨⟨v, h1.kept g (by simp), h2.kept g ?_, trivial⟩, h3.setCell (by simp) _, by rw [Deep.nblk_setCell]; exact h4⟩
  cases e : v.ownBlock with
  | none => exact .inl rfl
  | some k =>
    have := (h2.lt k e).1
    refine .inr fun e2 => ?_
    simp only [Option.some.injEq] at e2
    omega
theorem rowLow {w W : World} {e s n : Nat} {v : Value} {xs : List Value} (h : W.ownsRow (w.heap.size + 4) e s v n xs) : W.ownsRow w.heap.size e s v n xs := by
  refine ⟨h.1, ?_⟩
  rcases h.2 with hn | ⟨g, cap, cur, hv, hb', rest⟩
  · exact .inl hn
  · exact .inr ⟨g, cap, cur, hv, by omega, rest⟩
theorem mid_app {w W w1 : World} {v v' : Value} {n : Nat} {xs : List Value} {o : Obj} (hlo : w.heap.size + 4 ≤ W.heap.size) (hrow : W.ownsRow (w.heap.size + 4) 9 1 v n xs) (hg : (W.alloc o).grownBy w1 v.ownBlock) :
    MidKept (w.heap.size + 1) (w.heap.size + 1 + 3) W (w1.setCell ⟨w.heap.size, 0, none⟩ v') := fun k h1 h2 => by
  rw [Deep.blk_setCell_other _ _ _ _ (by simp; omega), hg.block k (by simp; omega) ?_, Below.heap_alloc _ _ _ (by omega)]
  intro e
  have := (hrow.lt k e.symm).1
  omega
set_option maxRecDepth 100000 in
set_option maxHeartbeats 8000000 in
theorem pwords_any (s : ByteArray) (hs : s.size ≤ 90000) (w : World) : Calls Tryz.prog 80 #[.string s] w (PWordsPost s.data.toList w) := by
  have HP : Hid (∀ v w' (ys : List WordX), AllW s.data.toList ys → w'.ownsRow w.heap.size 9 1 v (keptW ys).length ((keptW ys).map txtW) → Below w.heap.size w w' → PWordsPost s.data.toList w (.returned v) w') := Lib.hid (fun v w' ys hy hr hb => by
    refine ⟨v, rfl, ?_, hb⟩
    unfold OwnT
    rw [← keptW_words hy, List.length_map, ← txtW_of]; exact hr)
  obtain ⟨i0, hi, hz0, hz1, hz2⟩ := info_parts infoT
  refine (callsIn_wide (n := 5)).1 ?_
  refine callsIn_of_wp_marks Tryz.func80 rfl trivial ?_ rfl
  simp only [Tryz.ntmps80, List.size_toArray, List.length_cons, List.length_nil, Nat.reduceAdd, Nat.reduceSub, Array.replicate_succ, Array.replicate_zero, List.push_toArray, List.append_toArray, List.nil_append, List.cons_append]
  gi_wp2_with (refine ⟨trivial, ?_⟩; gi_at_call 103; refine (seq_in _ _ _).mono ?_; rintro e w' ⟨rfl, rfl⟩)
  have bO := Boxed.new w 56 (.slice none 0 0)
  have hB0 : Below w.heap.size w ((((w.alloc (.cells #[.slice none 0 0] 56)).alloc (.cells #[.string s] 9)).alloc (.cells #[.string ⟨#[32]⟩] 9)).alloc (.cells #[.int .i64 0] 3)) := ((((Below.refl _ w).alloc (Nat.le_refl _) _).alloc (by simp) _).alloc (by simp; omega) _).alloc (by simp; omega) _
  have bX := Boxes.new (w.alloc (.cells #[.slice none 0 0] 56)) s
  rw [World.size_alloc] at bX
  obtain ⟨WS, hWS⟩ : ∃ WS, ((((w.alloc (.cells #[.slice none 0 0] 56)).alloc (.cells #[.string s] 9)).alloc (.cells #[.string ⟨#[32]⟩] 9)).alloc (.cells #[.int .i64 0] 3)) = WS := ⟨_, rfl⟩
  have hsz : WS.heap.size = w.heap.size + 4 := by rw [← hWS]; simp
  have hI0 : InW w [] WS := by rw [← hWS]; exact ⟨⟨_, ((bO.alloc _).alloc _).alloc _, World.ownsRow_nil _ _ _ _, trivial⟩, hB0, by simp⟩
  rw [hWS] at bX ⊢
  have HSZ := Lib.hid hsz
  clear hB0 bO hWS hsz
  refine range_box rfl (by omega) (gf := 145) (lb := #[.pointer (some ⟨w.heap.size + 1 + 1, 0, none⟩), .pointer (some ⟨w.heap.size + 1, 0, none⟩), .pointer (some ⟨w.heap.size + 1 + 2, 0, none⟩)]) rfl trivial (enters_of Tryz.func145 (by kernel_rfl) rfl)
    (gives_words _ (by omega) s hs (w.heap.size + 1) WS (by rw [HSZ.out]; omega) bX) (by rw [HSZ.out]; omega) (by rw [HSZ.out]; show w.heap.size + 1 < _; omega) (fun _ => rfl)
    (InW w) ?own (fun pre W u h => h.set u) hI0
    (fun x => { tmps := #[.string s, undef, .slice none 0 0, .pointer (some ⟨w.heap.size, 0, none⟩), .string x.1, .string s, .func (.func 145) #[] #[.pointer (some ⟨w.heap.size + 1 + 1, 0, none⟩), .pointer (some ⟨w.heap.size + 1, 0, none⟩), .pointer (some ⟨w.heap.size + 1 + 2, 0, none⟩)], .string x.1, undef, undef, undef, undef, undef, undef, undef], defers := [] }) ?assign ?body ?done
  case own =>
    rw [HSZ.out]
    exact OwnFrom.and (Own.from (holdsRow_own (w.heap.size + 4) w.heap.size 56 9 1 (fun pre : List WordX => (keptW pre).length) (fun pre => (keptW pre).map txtW) (fun _ _ => True)) _) (OwnFrom.and (ownFrom_below (Nat.le_refl _) (by omega)) (fun _ _ _ _ h hg _ => Nat.le_trans h hg.size))
  case assign =>
    intro l x W K hK
    dsimp only [encW]
    gi_wp2
    exact hK
  case body =>
    rintro l pre x W ⟨⟨v, hv, hrow, _⟩, hB, hlo⟩ hlt
    have hc := hv.cell
    have he := emptyT x.1
    by_cases h0 : x.1.size = 0
    · have HG : Hid (∀ a : Act, goneOn (w.heap.size + 1) (w.heap.size + 1 + 3) (InW w) (pre ++ [x]) W .normal a W) := Lib.hid (fun _ => ⟨KeepsOthers.refl _, MidKept.refl _ _ _, ⟨⟨v, hv, by rw [keptW_snoc, if_pos h0]; exact hrow, trivial⟩, hB, hlo⟩⟩)
      rw [decide_eq_true h0] at he
      clear h0
      gi_wp2
      exact HG.out _
    · rw [decide_eq_false h0] at he
      have HS : Hid (keptW (pre ++ [x]) = keptW pre ++ [x]) := Lib.hid (by rw [keptW_snoc, if_neg h0])
      have hlen := keptW_len pre
      clear h0
      gi_wp2_with (gi_at_builtin; refine wpListIn_append_own _ rfl _ _ 56 rfl (w.heap.size + 4) 9 i0 (.string ⟨#[]⟩) 1 16 Tryz.underlying56 hi hz0 hz1 hz2 rfl (by decide) _ _ _ rfl (hrow.alloc _) ⟨W.heap.size, 0, none⟩ 1 1 [.string x.1] rfl rfl (cell_one_new _ _ _) (by simp [Value.oneCell']) (by unfold maxLen; omega) (by omega) (by simp; omega) ?_; intro v' w1 hown' hgrow _; obtain ⟨g', cap', rfl⟩ := ownsRow_succ hown'; obtain ⟨hv1, hv2, hr2, hk2, hb2⟩ := hv.appended (by decide) (rowLow hrow) hB.size (Nat.le_refl _) (rowLow hown') hgrow; have hc1 := hv1.cell; have hf1 := hv1.frozen)
      exact ⟨hk2, mid_app hlo hrow hgrow, ⟨_, hv2, by rw [HS.out, List.length_append, List.map_append]; exact hown'.kept (grownBy_setCell' w1 _ _) (.inr (hv1.not_row (by decide) hown').symm), trivial⟩, hB.trans hb2, Nat.le_trans hlo hb2.size⟩
  case done =>
    rintro D ys W hD hall ⟨⟨v, hv, hrow, _⟩, hB, hlo⟩ hK
    have HF := Lib.hid (fun w9 => HP.out v w9 ys hall)
    have hc := hv.cell
    have hD' : w.heap.size ≤ D := by have := HSZ.out; omega
    clear hall HP
    gi_wp2
    refine ⟨by simp, .inl ⟨_, _, rfl, run_takeDeferred hK, ?_⟩⟩
    refine ⟨v, by simp [results, Tryz.f80, go_sem], HF.out _ (ownsRow_putObj (rowLow hrow) _ hK rfl) (hB.trans (belowK_b (w := w) (Nat.le_refl _) W D _ _ hD' hK rfl rfl))⟩
end Go.Proofs.YtceohgjfjndcmaaGreatDoor
