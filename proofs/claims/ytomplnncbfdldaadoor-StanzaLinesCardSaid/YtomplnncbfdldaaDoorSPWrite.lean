/-
  The program's write of a field into a Builder: what the Builder holds behind it; nothing else turns.
-/
import Derived.Test.YtomplnncbfdldaaDoorSPCheck
import Derived.Shelf.Strings.BuilderK
namespace Go.Proofs.YtomplnncbfdldaaDoor
open Go.RowKit Go.Shelf
attribute [local go_sem] Oper.semAt_some
abbrev tB : TypeId := 56
abbrev tU : TypeId := 5
/-- The Builder at block b (all that is its own from B on) holds the bytes l. -/
abbrev Bld (B b : Nat) (l : Bs) (w : World) : Prop := Lib.IsBuilderF tB tU B b (Lib.byteCells l) w
/-- What no writing into the Builder turns. -/
abbrev Oth (b : Nat) (w w' : World) : Prop := Lib.OthersKept tU (some b) w w'
def WrPost (B b : Nat) (l : Bs) (w : World) (e : Ending) (w' : World) : Prop := (∃ v, e = .returned v) ∧ Bld B b l w' ∧ Below B w w'
theorem wstr_any (B b : Nat) (l : Bs) (s : ByteArray) (w : World) (h : Bld B b l w) (hl : l.length ≤ 100000000000) (hs : s.size ≤ 1000000) (hB : B ≤ w.heap.size) :
    Calls Tryd.prog 20 #[.pointer (some ⟨b, 0, none⟩), .string s] w fun e w' => ∃ v, e = .returned v ∧ Bld B b (l ++ s.data.toList) w' ∧ Below B w w' ∧ Oth b w w' := by
  have := Any.Builder_WriteString_k (ρ := Tryd.lays156_ren) { Tryd.lays156 with } Tryd.Builder_Extra_156 B b (Lib.byteCells l) s w h (by rw [Lib.byteCells_length]; omega) hB
  refine Calls.mono this fun e w' hp => ⟨_, hp.1, .inr ?_, hp.2.2.1, hp.2.2.2⟩
  rw [Lib.byteCells_append]; exact hp.2.1
/-- A line as it is written. -/
def lineOut (x : LineX) : Bs := (if 0 < x.1.1 ∨ lnOf x ≠ [] then [32] else []) ++ (lnOf x ++ [10])
theorem out_len (x : LineX) : (lineOut x).length ≤ 100002 := by
  have hx := x.2.2
  have : (lnOf x).length = x.1.2.size := (sizeOf _).symm
  unfold lineOut
  simp only [List.length_append, List.length_cons, List.length_nil]
  split <;> simp <;> omega
theorem outs_len (ys : List LineX) : (ys.flatMap lineOut).length ≤ 100002 * ys.length := by
  induction ys with
  | nil => simp
  | cons x ys ih =>
    have := out_len x
    rw [List.flatMap_cons, List.length_append, List.length_cons]; omega
theorem outs_all {s : Bs} {ys : List LineX} (h : AllLn s ys) : ys.flatMap lineOut = printT (spl 10 s) := by
  have hne := spl_ne 10 s
  rw [← h.1] at hne ⊢
  cases ys with
  | nil => exact absurd rfl hne
  | cons x ys =>
    have h0 : x.1.1 = 0 := h.2 0 x rfl
    have hr : ∀ y ∈ ys, 0 < y.1.1 := fun y hy => by
      obtain ⟨j, hj, rfl⟩ := List.mem_iff_getElem.1 hy
      have := h.2 (j + 1) ys[j] (by simp)
      omega
    have e1 : lineOut x = headLine (lnOf x) := by
      unfold lineOut headLine
      by_cases e : lnOf x = []
      · rw [if_neg (by rw [h0]; simp [e]), if_neg (by simp [e])]; simp
      · rw [if_pos (.inr e), if_pos e]; simp
    have e2 : ys.flatMap lineOut = (ys.map lnOf).flatMap tailLine := by
      rw [List.flatMap_map]
      clear e1 h hne h0
      induction ys with
      | nil => rfl
      | cons y ys ih =>
        rw [List.flatMap_cons, List.flatMap_cons, ih (fun z hz => hr z (List.mem_cons_of_mem _ hz))]
        congr 1
        unfold lineOut tailLine
        rw [if_pos (.inl (hr y (by simp)))]; simp
    rw [List.flatMap_cons, List.map_cons, printT, e1, e2]
-- What stays
theorem bld_kept {B b : Nat} {l : Bs} {W W' : World} {row : Option Nat} (h : Bld B b l W) (hg : W.grownBy W' row) (hr : ∀ r, row = some r → ∃ o : Obj, W.heap[r]? = some o ∧ o.isCells = false) : Bld B b l W' := by
  have key : ∀ p, Lib.BuilderAtF tB tU B b p (Lib.byteCells l) W → Lib.BuilderAtF tB tU B b p (Lib.byteCells l) W' := by
    rintro p ⟨hB, v, hb, hown, hne⟩
    refine ⟨hB, v, ?_, hown.kept hg ?_, hne⟩
    · refine (hg.block b (Array.getElem?_eq_some_iff.1 hb).1 fun e => ?_).trans hb
      obtain ⟨o, ho, hc⟩ := hr b e.symm
      rw [hb] at ho; cases ho; cases hc
    · cases hv : v.ownBlock with
      | none => exact .inl rfl
      | some g =>
        right
        intro e
        obtain ⟨c, fz, hk⟩ := Lib.ownsRowF_kind hown g hv
        obtain ⟨o, ho, hc⟩ := hr g e.symm
        rw [hk] at ho; cases ho; cases hc
  exact h.elim (fun x => .inl (key _ x)) (fun x => .inr (key _ x))
theorem heap_kept {W W' : World} {row : Option Nat} {k : Nat} {cs : Array Value} {t : TypeId} {fz : Nat × Nat} (h : W.heap[k]? = some (.cells cs t fz)) (hg : W.grownBy W' row) (hr : ∀ r, row = some r → ∃ o : Obj, W.heap[r]? = some o ∧ o.isCells = false) : W'.heap[k]? = some (.cells cs t fz) := by
  refine (hg.block k (Array.getElem?_eq_some_iff.1 h).1 fun e => ?_).trans h
  obtain ⟨o, ho, hc⟩ := hr k e.symm
  rw [h] at ho; cases ho; cases hc
theorem oth_keeps {B0 b : Nat} {W W' : World} (h : Oth b W W') (hs : W.heap.size ≤ W'.heap.size) (hb : b < B0) : KeepsFrom B0 W W' :=
  ⟨hs, fun i o hB hi ho => h i o hi (fun e => by cases e; omega) (fun c fz e => by rw [e] at ho; cases ho)⟩
theorem heap_oth {W W' : World} {b k : Nat} {cs : Array Value} {t : TypeId} {fz : Nat × Nat} (h : W.heap[k]? = some (.cells cs t fz)) (ho : Oth b W W') (hk : k ≠ b) (ht : t ≠ tU) : W'.heap[k]? = some (.cells cs t fz) :=
  ho k _ h (fun e => hk (Option.some.inj e)) (fun c fz' e => by cases e; exact ht rfl)
theorem oth_alloc {b : Nat} {W : World} (o : Obj) : Oth b W (W.alloc o) := (Lib.OthersKept.refl _ _ _).alloc o
theorem cell_heap {W : World} {k i : Nat} {cs : Array Value} {t : TypeId} {fz : Nat × Nat} {v : Value} (h : W.heap[k]? = some (.cells cs t fz)) (hv : cs[i]? = some v) : W.cell? ⟨k, i, none⟩ = some v := by rw [cellRow W k i cs t fz h, hv]
set_option maxRecDepth 100000 in
set_option maxHeartbeats 8000000 in
theorem write_any (B b : Nat) (l : Bs) (X Y : ByteArray) (hX : X.size ≤ 90000) (hY : Y.size ≤ 90000) (hl : l.length ≤ 10000000) (w : World) (h : Bld B b l w) (hB : B ≤ w.heap.size) (hbw : b < w.heap.size) :
    Calls Tryd.prog 21 #[.pointer (some ⟨b, 0, none⟩), .agg #[.string X, .string Y]] w (WrPost B b (l ++ printF (X.data.toList, Y.data.toList)) w) := by
  obtain ⟨W0, hW0⟩ : ∃ W0 : World, W0 = (w.alloc (.cells #[.pointer (some ⟨b, 0, none⟩)] 53)).alloc (.cells #[.string X, .string Y] 39) := ⟨_, rfl⟩
  have HS0 : Hid (W0.heap.size = w.heap.size + 2) := Lib.hid (by rw [hW0]; simp)
  have hk0 : W0.heap[w.heap.size]? = some (.cells #[.pointer (some ⟨b, 0, none⟩)] 53 (0, 0)) := by
    rw [hW0]
    exact Below.heap_alloc _ _ _ (by simp) |>.trans (heap_alloc_new w _)
  have hk1 : W0.heap[w.heap.size + 1]? = some (.cells #[.string X, .string Y] 39 (0, 0)) := by
    rw [hW0]
    have := heap_alloc_new (w.alloc (.cells #[.pointer (some ⟨b, 0, none⟩)] 53)) (.cells #[.string X, .string Y] 39)
    simpa using this
  have hb0 : Bld B b l W0 := by rw [hW0]; exact (h.alloc _).alloc _
  have hB0 : Below B w W0 := by rw [hW0]; exact ((Below.refl B w).alloc hB _).alloc (by simp; omega) _
  have hbne : b ≠ w.heap.size := by omega
  have hbne' : b ≠ w.heap.size + 1 := by omega
  have ht1 : 53 ≠ tU := by decide
  have ht2 : 39 ≠ tU := by decide
  have A1 := wstr_any B b l X W0 hb0 (by omega) (by omega) (by have := HS0.out; omega)
  have HK0 := Lib.hid (And.intro hk0 hk1)
  have HBB := Lib.hid hB0
  clear hk0 hk1 hb0 hB0 h
  subst hW0
  refine (callsIn_wide (n := 5)).1 ?_
  refine callsIn_of_wp_marks Tryd.func21 rfl trivial ?_ rfl
  simp only [Tryd.ntmps21, List.size_toArray, List.length_cons, List.length_nil, Nat.reduceAdd, Nat.reduceSub, Array.replicate_succ, Array.replicate_zero, List.push_toArray, List.append_toArray, List.nil_append, List.cons_append]
  gi_wp2_with (refine ⟨trivial, ?_⟩; gi_at_call 20; refine (callsIn_wide.2 A1).mono ?_; rintro e w1 ⟨v1, rfl, hb1, hbe1, ho1⟩; refine Hid.out ?_)
  have hk0 := heap_oth HK0.out.1 ho1 hbne.symm ht1
  have hk1 := heap_oth HK0.out.2 ho1 hbne'.symm ht2
  have d0 := cell_heap (i := 0) hk0 rfl
  have d1 := cell_heap (i := 1) hk1 rfl
  have hs1 := hbe1.size
  have hsz1 := HS0.out
  have A2 := wstr_any B b (l ++ X.data.toList) ⟨#[58]⟩ w1 hb1 (by rw [List.length_append, ← sizeOf]; omega) (by decide) (by omega)
  have HK1 := Lib.hid (And.intro hk0 hk1)
  have HB1 := Lib.hid (HBB.out.trans hbe1)
  clear hk0 hk1 hb1 hbe1 ho1 A1 hs1 hsz1
  refine Lib.hid ?_
  gi_wp2_with (refine ⟨trivial, ?_⟩; gi_at_call 20; refine (callsIn_wide.2 A2).mono ?_; rintro e w2 ⟨v2, rfl, hb2, hbe2, ho2⟩; refine Hid.out ?_)
  have hk0 := heap_oth HK1.out.1 ho2 hbne.symm ht1
  have hk1 := heap_oth HK1.out.2 ho2 hbne'.symm ht2
  have e0 := cell_heap (i := 0) hk0 rfl
  have e1 := cell_heap (i := 1) hk1 rfl
  have HK2 := Lib.hid hk0
  have HB2 := Lib.hid (HB1.out.trans hbe2)
  have HBD := Lib.hid hb2
  clear hk0 hk1 hb2 hbe2 ho2 A2 d0 d1 HK1 HB1
  refine Lib.hid ?_
  gi_wp2_with (refine ⟨trivial, ?_⟩; gi_at_call 14; refine (lines_in _ _ _).mono ?_; rintro e w3 ⟨rfl, rfl⟩)
  have hsz2 : w.heap.size + 2 ≤ w2.heap.size := by
    have h1 := HB2.out.size
    have h2 := (World.block_lt_of_cell? w2 _ e1)
    simp at h2; omega
  have bN : (w2.alloc (.cells #[.string Y] 9)).cell? ⟨w2.heap.size, 0, none⟩ = some (.string Y) := by simp
  obtain ⟨l1, hl1⟩ : ∃ l1, l1 = l ++ X.data.toList ++ (ByteArray.mk #[58]).data.toList := ⟨_, rfl⟩
  have hl1n : l1.length ≤ 10100000 := by
    rw [hl1]; simp only [List.length_append]; rw [← sizeOf X]
    show l.length + X.size + 1 ≤ _; omega
  have hend : ∀ ys, AllLn Y.data.toList ys → l1 ++ ys.flatMap lineOut = l ++ printF (X.data.toList, Y.data.toList) := fun ys hy => by
    rw [outs_all hy, hl1]; unfold printF; simp
  rw [← hl1] at HBD
  have HEND := Lib.hid hend
  clear hl1 hend
  have hBl : B ≤ (w2.alloc (.cells #[.string Y] 9)).heap.size := by simp; omega
  have hBb : b < (w2.alloc (.cells #[.string Y] 9)).heap.size := by simp; omega
  refine wpIn_rangeFunc_ownG rfl (by omega) (gf := 26) (lb := #[.pointer (some ⟨w2.heap.size, 0, none⟩)]) rfl trivial (enters_of Tryd.func26 (by kernel_rfl) rfl)
    (lines_stops _ (by omega) (fun _ _ => True) Y (by omega) w2.heap.size _ (by simp) bN) (fun _ _ => trivial) (fun _ _ _ _ _ _ _ _ => trivial) (Below.refl _ _) (fun _ => rfl)
    (fun pre W => Bld B b (l1 ++ pre.flatMap lineOut) W ∧ W.heap[w.heap.size]? = some (.cells #[.pointer (some ⟨b, 0, none⟩)] 53 (0, 0)) ∧ Below B w W)
    (fun _ _ _ => False)
    (fun s A B' row hs hg hr => ⟨bld_kept hs.1 hg (fun r e => (hr r e).2), heap_kept hs.2.1 hg (fun r e => (hr r e).2), ownFrom_below (β := Unit) hB hBl () A B' row hs.2.2 hg hr⟩)
    (fun _ _ _ _ _ hs _ _ => hs)
    ⟨by rw [List.flatMap_nil, List.append_nil]; exact HBD.out.alloc _, by rw [Below.heap_alloc _ _ _ (by omega)]; exact HK2.out, HB2.out.alloc (by omega) _⟩
    (fun x => { tmps := #[.pointer (some ⟨b, 0, none⟩), .agg #[.string X, .string Y], .pointer (some ⟨w.heap.size, 0, none⟩), .pointer (some ⟨w.heap.size + 1, 0, none⟩), .int .i64 x.1.1, .string x.1.2, .pointer (some ⟨b, 0, none⟩), .pointer (some ⟨w.heap.size + 1, 0, none⟩), .string X, v1, .pointer (some ⟨b, 0, none⟩), v2, .pointer (some ⟨w.heap.size + 1, 1, none⟩), .string Y, .func (.func 26) #[] #[.pointer (some ⟨w2.heap.size, 0, none⟩)], .int .i64 x.1.1, .string x.1.2, undef, undef, undef, undef, undef, undef, undef, undef, undef, undef, undef, undef, undef], defers := [] }) ?assign ?body ?done ?stop
  case assign =>
    intro l x W K hK
    dsimp only [encLn]
    gi_wp2
    exact hK
  case body =>
    have hB9 := hB
    rintro l0 pre ⟨⟨i, L⟩, hi, hL⟩ W ⟨hb, hp, hB⟩ hlt
    have hi' : i ≤ 100000 := hi
    have hL' : L.size ≤ 100000 := hL
    have hLl : L.data.toList.length ≤ 100000 := by rw [← sizeOf]; exact hL'
    have hout := outs_len pre
    have hpl : pre.length ≤ 90000 := by omega
    have hc := cell_heap (i := 0) hp rfl
    have HBC := Lib.hid hb
    have HPC := Lib.hid hp
    have HBE := Lib.hid (Below.refl B W)
    have HOC := Lib.hid (Lib.OthersKept.refl tU (some b) W)
    have HSZ := Lib.hid (Nat.le_refl W.heap.size)
    have hBz := hB.size
    have e0 := emptyT L
    have h10 : (ByteArray.mk #[10]).data.toList.length = 1 := rfl
    have h32 : (ByteArray.mk #[32]).data.toList.length = 1 := rfl
    have HX : Hid (lineOut ⟨(i, L), hi, hL⟩ = (if 0 < i ∨ L.data.toList ≠ [] then [32] else []) ++ (L.data.toList ++ [10])) := Lib.hid rfl
    dsimp only []
    clear hb hp hlt HBD HK2 HB2 HEND bN e1
    by_cases h0 : i = 0
    · by_cases hL0 : L.size = 0
      · have HEQ : Hid (l1 ++ (pre ++ [(⟨(i, L), hi, hL⟩ : LineX)]).flatMap lineOut = l1 ++ pre.flatMap lineOut ++ L.data.toList ++ (ByteArray.mk #[10]).data.toList) := Lib.hid (by
          rw [List.flatMap_append, List.flatMap_cons, List.flatMap_nil, HX.out, if_neg (by
            have : L.data.toList = [] := List.eq_nil_of_length_eq_zero (by rw [← sizeOf]; exact hL0)
            rw [h0, this]; simp)]
          simp)
        rw [decide_eq_true hL0] at e0
        subst h0
        clear hL0 HX
        gi_wp2_with (refine ⟨trivial, ?_⟩; gi_at_call 20; refine (CallsIn.inRound l0 (callsIn_wide.2 (wstr_any B b _ _ _ HBC.out (by simp only [List.length_append]; omega) (by first | decide | omega) (Nat.le_trans hB9 (Nat.le_trans hBz HSZ.out))))).mono ?_; rintro e w3 ⟨v3, rfl, hb3, hbe3, ho3⟩; replace HBC := Lib.hid hb3; have hp3 := heap_oth HPC.out ho3 hbne.symm ht1; have hc := cell_heap (i := 0) hp3 rfl; replace HPC := Lib.hid hp3; replace HBE := Lib.hid (HBE.out.trans hbe3); replace HOC := Lib.hid (HOC.out.trans ho3); replace HSZ := Lib.hid (Nat.le_trans HSZ.out hbe3.size); clear hb3 hbe3 ho3 hp3)
        exact ⟨oth_keeps HOC.out HSZ.out hBb, trivial, by rw [HEQ.out]; exact HBC.out, HPC.out, hB.trans HBE.out⟩
      · have HEQ : Hid (l1 ++ (pre ++ [(⟨(i, L), hi, hL⟩ : LineX)]).flatMap lineOut = l1 ++ pre.flatMap lineOut ++ (ByteArray.mk #[32]).data.toList ++ L.data.toList ++ (ByteArray.mk #[10]).data.toList) := Lib.hid (by
          rw [List.flatMap_append, List.flatMap_cons, List.flatMap_nil, HX.out, if_pos (.inr (fun g => hL0 (by rw [sizeOf, g]; rfl)))]
          simp)
        rw [decide_eq_false hL0] at e0
        subst h0
        clear hL0 HX
        gi_wp2_with (refine ⟨trivial, ?_⟩; gi_at_call 20; refine (CallsIn.inRound l0 (callsIn_wide.2 (wstr_any B b _ _ _ HBC.out (by simp only [List.length_append]; omega) (by first | decide | omega) (Nat.le_trans hB9 (Nat.le_trans hBz HSZ.out))))).mono ?_; rintro e w3 ⟨v3, rfl, hb3, hbe3, ho3⟩; replace HBC := Lib.hid hb3; have hp3 := heap_oth HPC.out ho3 hbne.symm ht1; have hc := cell_heap (i := 0) hp3 rfl; replace HPC := Lib.hid hp3; replace HBE := Lib.hid (HBE.out.trans hbe3); replace HOC := Lib.hid (HOC.out.trans ho3); replace HSZ := Lib.hid (Nat.le_trans HSZ.out hbe3.size); clear hb3 hbe3 ho3 hp3)
        exact ⟨oth_keeps HOC.out HSZ.out hBb, trivial, by rw [HEQ.out]; exact HBC.out, HPC.out, hB.trans HBE.out⟩
    · have hi0 : (0 : Int) < (i : Int) := by omega
      have HEQ : Hid (l1 ++ (pre ++ [(⟨(i, L), hi, hL⟩ : LineX)]).flatMap lineOut = l1 ++ pre.flatMap lineOut ++ (ByteArray.mk #[32]).data.toList ++ L.data.toList ++ (ByteArray.mk #[10]).data.toList) := Lib.hid (by
        rw [List.flatMap_append, List.flatMap_cons, List.flatMap_nil, HX.out, if_pos (.inl (by omega))]
        simp)
      clear h0 HX e0
      gi_wp2_with (refine ⟨trivial, ?_⟩; gi_at_call 20; refine (CallsIn.inRound l0 (callsIn_wide.2 (wstr_any B b _ _ _ HBC.out (by simp only [List.length_append]; omega) (by first | decide | omega) (Nat.le_trans hB9 (Nat.le_trans hBz HSZ.out))))).mono ?_; rintro e w3 ⟨v3, rfl, hb3, hbe3, ho3⟩; replace HBC := Lib.hid hb3; have hp3 := heap_oth HPC.out ho3 hbne.symm ht1; have hc := cell_heap (i := 0) hp3 rfl; replace HPC := Lib.hid hp3; replace HBE := Lib.hid (HBE.out.trans hbe3); replace HOC := Lib.hid (HOC.out.trans ho3); replace HSZ := Lib.hid (Nat.le_trans HSZ.out hbe3.size); clear hb3 hbe3 ho3 hp3)
      exact ⟨oth_keeps HOC.out HSZ.out hBb, trivial, by rw [HEQ.out]; exact HBC.out, HPC.out, hB.trans HBE.out⟩
  case done =>
    rintro D ys W hD hall ⟨hb, hp, hB⟩ hK
    have HF := Lib.hid (HEND.out ys hall)
    clear hall HEND HBD HK2 HB2
    gi_wp2
    refine ⟨by simp, .inl ⟨_, _, rfl, run_takeDeferred hK, ?_⟩⟩
    exact ⟨_, results_none rfl _ _ _, ⟨_, rfl⟩, by rw [← HF.out]; exact bld_kept hb (grownBy_putObj' W D _) (fun r e => by cases e; exact ⟨_, hK, rfl⟩), hB.trans (belowK_b (w := w2) (n₀ := B) (by omega) W D _ _ (by simp at hD; omega) hK rfl rfl)⟩
  case stop =>
    rintro D c pre W _ _ h _
    exact h.elim
end Go.Proofs.YtomplnncbfdldaaDoor
