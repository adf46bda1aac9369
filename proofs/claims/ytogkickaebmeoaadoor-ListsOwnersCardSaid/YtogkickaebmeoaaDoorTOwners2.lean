/-
  The program's Owners, and the reference's: the names, in order, in a slice of the call's own.
-/
import Derived.Test.YtogkickaebmeoaaDoorTOwners
namespace Go.Proofs.YtogkickaebmeoaaDoor
open Go.RowKit Go.Shelf
attribute [local go_sem] Oper.semAt_some
theorem row_mono {w : World} {base base' : Nat} {e : TypeId} {size : Nat} {v : Value} {n : Nat} {xs : List Value} (h : w.ownsRow base e size v n xs) (hb : base' ≤ base) : w.ownsRow base' e size v n xs := by
  refine ⟨h.1, ?_⟩
  rcases h.2 with hn | ⟨g, cap, cur, hv, hb', rest⟩
  · exact .inl hn
  · exact .inr ⟨g, cap, cur, hv, by omega, rest⟩
theorem owners_stops (n : Nat) (hn : 1 ≤ n) (v : Value) (L : List Lp) (hl : L.length ≤ 90000) (hp : ∀ q ∈ L, q.1.1.length ≤ 9000000 ∧ q.1.2.length ≤ 90000) (P : ByteArray) (w : World) (h : HoldL w v L) (w3 : World) (hw : MidKept 0 w.heap.size w w3) (hs : w.heap.size + 3 ≤ w3.heap.size)
    (h1 : w3.cell? ⟨w.heap.size + 1, 0, none⟩ = some v) (h2 : w3.cell? ⟨w.heap.size + 2, 0, none⟩ = some (.string P)) :
    SeqStopsK Fence.wide n Tryd.prog 87 #[.pointer (some ⟨w.heap.size + 1, 0, none⟩), .pointer (some ⟨w.heap.size + 2, 0, none⟩)] encNm (KpO w.heap.size) (AllNm L P.data.toList) (fun _ => True) (L.length + 1) w3 := fun l J Jx W hW hJ _ hY h0 =>
  owners1_in n hn v L hl hp P w h l J Jx _ hJ hY W (fun k _ b => (hW.block k (by omega)).trans (hw k (by omega) b)) ((hW.cell (p := ⟨w.heap.size + 1, 0, none⟩) (by show w.heap.size + 1 < _; omega)).trans h1) ((hW.cell (p := ⟨w.heap.size + 2, 0, none⟩) (by show w.heap.size + 2 < _; omega)).trans h2) h0
def nmV (x : NmX) : Value := .string x.1
theorem txts_nm (ys : List NmX) : ys.map nmV = txts (ys.map nmOf) := by
  unfold txts
  rw [List.map_map]
  refine congrArg (fun g => List.map g ys) (funext fun x => ?_)
  show Value.string x.1 = Value.string ⟨(x.1.data.toList).toArray⟩
  rw [← strOf (x := x.1) rfl]
def OwPost (L : List Lp) (p : Bs) (w : World) (e : Ending) (w' : World) : Prop := ∃ v, e = .returned v ∧ OwnT w' w.heap.size v (ownN L p) ∧ Below w.heap.size w w'
set_option maxRecDepth 100000 in
set_option maxHeartbeats 8000000 in
theorem owners_any (v : Value) (L : List Lp) (hl : L.length ≤ 90000) (hp : ∀ q ∈ L, q.1.1.length ≤ 9000000 ∧ q.1.2.length ≤ 90000) (P : ByteArray) (w : World) (h : HoldL w v L) : Calls Tryd.prog 27 #[v, .string P] w (OwPost L P.data.toList w) := by
  have hH := h
  obtain ⟨-, a, c, b, o, rfl, -, -, -⟩ := h
  have HP : Hid (∀ v w' (ys : List NmX), AllNm L P.data.toList ys → w'.ownsRow (w.heap.size + 3) 9 1 v ys.length (ys.map nmV) → Below w.heap.size w w' → OwPost L P.data.toList w (.returned v) w') := Lib.hid (fun v w' ys hy hr hb => ⟨v, rfl, by
    refine OwnT.mono (base := w.heap.size + 3) ?_ (by omega)
    unfold OwnT
    rw [← hy, List.length_map, ← txts_nm]; exact hr, hb⟩)
  obtain ⟨i0, hi, hz0, hz1, hz2⟩ := info_parts infoT
  refine (callsIn_wide (n := 5)).1 ?_
  refine callsIn_of_wp_marks Tryd.func27 rfl trivial ?_ rfl
  simp only [Tryd.ntmps27, List.size_toArray, List.length_cons, List.length_nil, Nat.reduceAdd, Nat.reduceSub, Array.replicate_succ, Array.replicate_zero, List.push_toArray, List.append_toArray, List.nil_append, List.cons_append]
  gi_wp2_with (refine ⟨trivial, ?_⟩; gi_at_call 63; refine (owners_in _ _ _ _ _ _).mono ?_; rintro e w' ⟨rfl, rfl⟩)
  have bO := Boxed.new w 22 (.slice none 0 0)
  have hB0 : Below w.heap.size w (((w.alloc (.cells #[.slice none 0 0] 22)).alloc (.cells #[.slice a L.length c] 25)).alloc (.cells #[.string P] 9)) := (((Below.refl _ w).alloc (Nat.le_refl _) _).alloc (by simp) _).alloc (by simp; omega) _
  have hsz0 : w.heap.size + 3 ≤ (((w.alloc (.cells #[.slice none 0 0] 22)).alloc (.cells #[.slice a L.length c] 25)).alloc (.cells #[.string P] 9)).heap.size := by simp
  have h1 : (((w.alloc (.cells #[.slice none 0 0] 22)).alloc (.cells #[.slice a L.length c] 25)).alloc (.cells #[.string P] 9)).cell? ⟨w.heap.size + 1, 0, none⟩ = some (.slice a L.length c) := by
    have q := (Boxed.new (w.alloc (.cells #[.slice none 0 0] 22)) 25 (.slice a L.length c)).alloc (.cells #[.string P] 9)
    rw [World.size_alloc] at q
    exact q.cell
  have h2 : (((w.alloc (.cells #[.slice none 0 0] 22)).alloc (.cells #[.slice a L.length c] 25)).alloc (.cells #[.string P] 9)).cell? ⟨w.heap.size + 2, 0, none⟩ = some (.string P) := by
    have q := Boxed.new ((w.alloc (.cells #[.slice none 0 0] 22)).alloc (.cells #[.slice a L.length c] 25)) 9 (.string P)
    rw [World.size_alloc, World.size_alloc] at q
    exact q.cell
  refine wpIn_rangeFunc_ownG rfl (by omega) (gf := 87) (lb := #[.pointer (some ⟨w.heap.size + 1, 0, none⟩), .pointer (some ⟨w.heap.size + 2, 0, none⟩)]) rfl trivial (enters_of Tryd.func87 (by kernel_rfl) rfl)
    (owners_stops _ (by omega) _ L hl hp P w hH _ (fun k _ b => hB0.block k b) hsz0 h1 h2) (fun h k => h.trans k) (fun W l o o' hl _ _ _ => ⟨MidKept.obj W o' (by omega), MidKept.obj W o' (by omega)⟩) (Below.refl _ _) (fun _ => rfl)
    (fun pre W => (∃ v, Boxed W w.heap.size 22 v ∧ W.ownsRow (w.heap.size + 3) 9 1 v pre.length (pre.map nmV) ∧ True) ∧ Below w.heap.size w W ∧ w.heap.size + 3 ≤ W.heap.size)
    (fun _ _ _ => False)
    (OwnFrom.and (Own.from (holdsRow_own (w.heap.size + 3) w.heap.size 22 9 1 (fun pre : List NmX => pre.length) (fun pre => pre.map nmV) (fun _ _ => True)) _) (OwnFrom.and (ownFrom_below (Nat.le_refl _) (by simp; omega)) (fun _ _ _ _ h g _ => Nat.le_trans h g.size)))
    (fun _ _ _ _ _ hs _ _ => hs)
    ⟨⟨_, (bO.alloc _).alloc _, World.ownsRow_nil _ _ _ _, trivial⟩, hB0, hsz0⟩
    (fun x => { tmps := #[.slice a L.length c, .string P, undef, undef, .slice none 0 0, .pointer (some ⟨w.heap.size, 0, none⟩), .string x.1, .slice a L.length c, .string P, .func (.func 87) #[] #[.pointer (some ⟨w.heap.size + 1, 0, none⟩), .pointer (some ⟨w.heap.size + 2, 0, none⟩)], .string x.1, undef, undef, undef, undef, undef], defers := [] }) ?assign ?body ?done ?stop
  case assign =>
    intro l x W K hK
    dsimp only [encNm]
    gi_wp2
    exact hK
  case body =>
    rintro l pre x W ⟨⟨v, hv, hrow, _⟩, hB, hs3⟩ hlt
    have hc := hv.cell
    have hrow0 := row_mono hrow (base' := w.heap.size) (by omega)
    gi_wp2_with (gi_at_builtin; refine wpListIn_append_own _ rfl _ _ 22 rfl (w.heap.size + 3) 9 i0 (.string ⟨#[]⟩) 1 16 Tryd.underlying22 hi hz0 hz1 hz2 rfl (by decide) _ _ _ rfl (hrow.alloc _) ⟨W.heap.size, 0, none⟩ 1 1 [.string x.1] rfl rfl (cell_one_new _ _ _) (by simp [Value.oneCell']) (by unfold maxLen; omega) (by omega) (by simp; omega) ?_; intro v' w1 hown' hgrow _; obtain ⟨g', cap', rfl⟩ := ownsRow_succ hown'; obtain ⟨hv1, hv2, hr2, hk2, hb2⟩ := hv.appended (by decide) hrow0 hB.size (Nat.le_refl _) (row_mono hown' (by omega)) hgrow; have hc1 := hv1.cell; have hf1 := hv1.frozen)
    have hr3 := World.ownsRow.kept hown' (grownBy_setCell' w1 w.heap.size (.slice (some ⟨g', 0, none⟩) (pre.length + 1) cap')) (.inr (hv1.not_row (by decide) hown').symm)
    have hkp : ∀ k, k < w.heap.size + 3 → k ≠ w.heap.size → (w1.setCell ⟨w.heap.size, 0, none⟩ (.slice (some ⟨g', 0, none⟩) (pre.length + 1) cap')).heap[k]? = W.heap[k]? := fun k hk hne => by
      rw [Below.heap_setCell _ _ _ k hne, hgrow.block k (by simp; omega) (fun e => by have := (World.ownsRow.lt hrow k e.symm).1; omega)]
      exact heap_alloc_old W _ (by omega)
    exact ⟨hk2.from _, ⟨fun k _ b => hkp k (by omega) (by omega), fun k a b => hkp k (by omega) (by omega)⟩, ⟨_, hv2, by simpa [nmV] using hr3, trivial⟩, hB.trans hb2, Nat.le_trans hs3 hb2.size⟩
  case done =>
    rintro D ys W hD hall ⟨⟨v, hv, hrow, _⟩, hB, _⟩ hK
    have HF := Lib.hid (fun w9 => HP.out v w9 ys hall)
    have hc := hv.cell
    clear hall HP
    gi_wp2
    refine ⟨by simp, .inl ⟨_, _, rfl, run_takeDeferred hK, ?_⟩⟩
    refine ⟨v, by simp [results, Tryd.f27, go_sem], HF.out _ (ownsRow_putObj hrow _ hK rfl) (hB.trans (belowK_b (w := w) (Nat.le_refl _) W D _ _ (by simp at hD; omega) hK rfl rfl))⟩
  case stop =>
    rintro D c pre W _ _ h _
    exact h.elim
end Go.Proofs.YtogkickaebmeoaaDoor
