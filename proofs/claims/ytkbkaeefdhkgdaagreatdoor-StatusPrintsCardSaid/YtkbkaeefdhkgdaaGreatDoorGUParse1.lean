import Derived.Test.YtkbkaeefdhkgdaaGreatDoorGSPWords
import Derived.Test.YtkbkaeefdhkgdaaGreatDoorGURight2
import Derived.Test.YtkbkaeefdhkgdaaGreatDoorGUKey
import Derived.Test.YtkbkaeefdhkgdaaGreatDoorGQOnes
import Derived.Test.YtkbkaeefdhkgdaaGreatDoorGSPParse
set_option maxRecDepth 100000
set_option maxHeartbeats 32000000
namespace Go.Proofs.YtkbkaeefdhkgdaaGreatDoor
section
open Go.RowKit Go.Shelf
attribute [local go_sem] Oper.semAt_some
def keptW (ys : List WordX) : List WordX := ys.filter fun x => decide (x.1.size ≠ 0)
def txtW (x : WordX) : Value := .string x.1
theorem keptW_snoc (ys : List WordX) (x : WordX) : keptW (ys ++ [x]) = if x.1.size = 0 then keptW ys else keptW ys ++ [x] := by
 unfold keptW
 rw [List.filter_append]
 by_cases h : x.1.size = 0
 ·
  rw [if_pos h, List.filter_cons, if_neg (by rw [decide_eq_true_eq]; exact fun g => g h)]; simp
 ·
  rw [if_neg h, List.filter_cons, if_pos (by rw [decide_eq_true_eq]; exact h)]; simp
theorem keptW_len (ys : List WordX) : (keptW ys).length ≤ ys.length := List.length_filter_le _ _
theorem txtW_of (ys : List WordX) : ys.map txtW = txts (ys.map wdOf) := by
 unfold txts
 rw [List.map_map]
 refine congrArg (fun g => List.map g ys) (funext fun x => ?_)
 show Value.string x.1 = Value.string ⟨(x.1.data.toList).toArray⟩
 rw [← strOf (x := x.1) rfl]
theorem keptW_words {s : Bs} {ys : List WordX} (h : AllW s ys) : (keptW ys).map wdOf = wordsL s := by
 unfold wordsL keptW AllW at *
 rw [← h, List.filter_map]
 congr 1
 refine List.filter_congr fun x _ => ?_
 have hx := sizeOf x.1
 show decide (x.1.size ≠ 0) = decide (x.1.data.toList ≠ [])
 rw [decide_eq_decide]
 constructor
 ·
  intro e g; exact e (by rw [hx, g]; rfl)
 ·
  intro e g; exact e (List.eq_nil_of_length_eq_zero (by omega))
def PWordsPost (s : Bs) (w : World) (e : Ending) (w' : World) : Prop := ∃ v, e = .returned v ∧ OwnT w' w.heap.size v (wordsL s) ∧ Below w.heap.size w w'
def InW (w : World) (pre : List WordX) (W : World) : Prop := (∃ v, Boxed W w.heap.size 40 v ∧ W.ownsRow (w.heap.size + 4) 9 1 v (keptW pre).length ((keptW pre).map txtW) ∧ True) ∧ Below w.heap.size w W ∧ w.heap.size + 4 ≤ W.heap.size
theorem InW.set {w : World} {pre : List WordX} {W : World} (h : InW w pre W) (u : Value) : InW w pre (W.setCell ⟨w.heap.size + 1, 0, none⟩ u) := by
 obtain ⟨⟨v, h1, h2, -⟩, h3, h4⟩ := h
 have g := grownBy_setCell' W (w.heap.size + 1) u
 refine ⟨⟨v, h1.kept g (by simp), h2.kept g ?_, trivial⟩, h3.setCell (by simp) _, by rw [Deep.nblk_setCell]; exact h4⟩
 cases e : v.ownBlock with
 | none => exact .inl rfl
 | some k =>
  have := (h2.lt k e).1
  refine .inr fun e2 => ?_
  simp only [Option.some.injEq] at e2
  omega
theorem rowLow {w W : World} {e s n : Nat} {v : Value} {xs : List Value} (h : W.ownsRow (w.heap.size + 4) e s v n xs) : W.ownsRow w.heap.size e s v n xs := by
 refine ⟨h.1, ?_⟩
 rcases h.2 with hn | ⟨g, cap, cur, hv, hb', rest⟩
 ·
  exact .inl hn
 ·
  exact .inr ⟨g, cap, cur, hv, by omega, rest⟩
theorem mid_app {w W w1 : World} {v v' : Value} {n : Nat} {xs : List Value} {o : Obj} (hlo : w.heap.size + 4 ≤ W.heap.size) (hrow : W.ownsRow (w.heap.size + 4) 9 1 v n xs) (hg : (W.alloc o).grownBy w1 v.ownBlock) :
  MidKept (w.heap.size + 1) (w.heap.size + 1 + 3) W (w1.setCell ⟨w.heap.size, 0, none⟩ v') := fun k h1 h2 => by
 rw [Deep.blk_setCell_other _ _ _ _ (by simp; omega), hg.block k (by simp; omega) ?_, Below.heap_alloc _ _ _ (by omega)]
 intro e
 have := (hrow.lt k e.symm).1
 omega
theorem pwords_any (s : ByteArray) (hs : s.size ≤ 90000) (w : World) : Calls Tryz.prog 72 #[.string s] w (PWordsPost s.data.toList w) := by
 have HP : Hid (∀ v w' (ys : List WordX), AllW s.data.toList ys → w'.ownsRow w.heap.size 9 1 v (keptW ys).length ((keptW ys).map txtW) → Below w.heap.size w w' → PWordsPost s.data.toList w (.returned v) w') := Lib.hid (fun v w' ys hy hr hb => by
  refine ⟨v, rfl, ?_, hb⟩
  unfold OwnT
  rw [← keptW_words hy, List.length_map, ← txtW_of]; exact hr)
 obtain ⟨i0, hi, hz0, hz1, hz2⟩ := info_parts infoT
 refine (callsIn_wide (n := 5)).1 ?_
 refine callsIn_of_wp_marks Tryz.func72 rfl trivial ?_ rfl
 simp only [Tryz.ntmps72, List.size_toArray, List.length_cons, List.length_nil, Nat.reduceAdd, Nat.reduceSub, Array.replicate_succ, Array.replicate_zero, List.push_toArray, List.append_toArray, List.nil_append, List.cons_append]
 gi_wp2_with (refine ⟨trivial, ?_⟩; gi_at_call 121; refine (seq_in _ _ _).mono ?_; rintro e w' ⟨rfl, rfl⟩)
 have bO := Boxed.new w 40 (.slice none 0 0)
 have hB0 : Below w.heap.size w ((((w.alloc (.cells #[.slice none 0 0] 40)).alloc (.cells #[.string s] 9)).alloc (.cells #[.string ⟨#[32]⟩] 9)).alloc (.cells #[.int .i64 0] 3)) := ((((Below.refl _ w).alloc (Nat.le_refl _) _).alloc (by simp) _).alloc (by simp; omega) _).alloc (by simp; omega) _
 have bX := Boxes.new (w.alloc (.cells #[.slice none 0 0] 40)) s
 rw [World.size_alloc] at bX
 obtain ⟨WS, hWS⟩ : ∃ WS, ((((w.alloc (.cells #[.slice none 0 0] 40)).alloc (.cells #[.string s] 9)).alloc (.cells #[.string ⟨#[32]⟩] 9)).alloc (.cells #[.int .i64 0] 3)) = WS := ⟨_, rfl⟩
 have hsz : WS.heap.size = w.heap.size + 4 := by rw [← hWS]; simp
 have hI0 : InW w [] WS := by rw [← hWS]; exact ⟨⟨_, ((bO.alloc _).alloc _).alloc _, World.ownsRow_nil _ _ _ _, trivial⟩, hB0, by simp⟩
 rw [hWS] at bX ⊢
 have HSZ := Lib.hid hsz
 clear hB0 bO hWS hsz
 refine range_box rfl (by omega) (gf := 177) (lb := #[.pointer (some ⟨w.heap.size + 1 + 1, 0, none⟩), .pointer (some ⟨w.heap.size + 1, 0, none⟩), .pointer (some ⟨w.heap.size + 1 + 2, 0, none⟩)]) rfl trivial (enters_of Tryz.func177 (by kernel_rfl) rfl)
  (gives_words _ (by omega) s hs (w.heap.size + 1) WS (by rw [HSZ.out]; omega) bX) (by rw [HSZ.out]; omega) (by rw [HSZ.out]; show w.heap.size + 1 < _; omega) (fun _ => rfl)
  (InW w) ?own (fun pre W u h => h.set u) hI0
  (fun x => { tmps := #[.string s, undef, .slice none 0 0, .pointer (some ⟨w.heap.size, 0, none⟩), .string x.1, .string s, .func (.func 177) #[] #[.pointer (some ⟨w.heap.size + 1 + 1, 0, none⟩), .pointer (some ⟨w.heap.size + 1, 0, none⟩), .pointer (some ⟨w.heap.size + 1 + 2, 0, none⟩)], .string x.1, undef, undef, undef, undef, undef, undef, undef], defers := [] }) ?assign ?body ?done
 case own =>
  rw [HSZ.out]
  exact OwnFrom.and (Own.from (holdsRow_own (w.heap.size + 4) w.heap.size 40 9 1 (fun pre : List WordX => (keptW pre).length) (fun pre => (keptW pre).map txtW) (fun _ _ => True)) _) (OwnFrom.and (ownFrom_below (Nat.le_refl _) (by omega)) (fun _ _ _ _ h hg _ => Nat.le_trans h hg.size))
 case assign =>
  intro l x W K hK
  dsimp only [encW]
  gi_wp2
  exact hK
 case body =>
  rintro l pre x W ⟨⟨v, hv, hrow, _⟩, hB, hlo⟩ hlt
  have hc := hv.cell
  have he := emptyT x.1
  by_cases h0 : x.1.size = 0
  ·
   have HG : Hid (∀ a : Act, goneOn (w.heap.size + 1) (w.heap.size + 1 + 3) (InW w) (pre ++ [x]) W .normal a W) := Lib.hid (fun _ => ⟨KeepsOthers.refl _, MidKept.refl _ _ _, ⟨⟨v, hv, by rw [keptW_snoc, if_pos h0]; exact hrow, trivial⟩, hB, hlo⟩⟩)
   rw [decide_eq_true h0] at he
   clear h0
   gi_wp2
   exact HG.out _
  ·
   rw [decide_eq_false h0] at he
   have HS : Hid (keptW (pre ++ [x]) = keptW pre ++ [x]) := Lib.hid (by rw [keptW_snoc, if_neg h0])
   have hlen := keptW_len pre
   clear h0
   gi_wp2_with (gi_at_builtin; refine wpListIn_append_own _ rfl _ _ 40 rfl (w.heap.size + 4) 9 i0 (.string ⟨#[]⟩) 1 16 Tryz.underlying40 hi hz0 hz1 hz2 rfl (by decide) _ _ _ rfl (hrow.alloc _) ⟨W.heap.size, 0, none⟩ 1 1 [.string x.1] rfl rfl (cell_one_new _ _ _) (by simp [Value.oneCell']) (by unfold maxLen; omega) (by omega) (by simp; omega) ?_; intro v' w1 hown' hgrow _; obtain ⟨g', cap', rfl⟩ := ownsRow_succ hown'; obtain ⟨hv1, hv2, hr2, hk2, hb2⟩ := hv.appended (by decide) (rowLow hrow) hB.size (Nat.le_refl _) (rowLow hown') hgrow; have hc1 := hv1.cell; have hf1 := hv1.frozen)
   exact ⟨hk2, mid_app hlo hrow hgrow, ⟨_, hv2, by rw [HS.out, List.length_append, List.map_append]; exact hown'.kept (grownBy_setCell' w1 _ _) (.inr (hv1.not_row (by decide) hown').symm), trivial⟩, hB.trans hb2, Nat.le_trans hlo hb2.size⟩
 case done =>
  rintro D ys W hD hall ⟨⟨v, hv, hrow, _⟩, hB, hlo⟩ hK
  have HF := Lib.hid (fun w9 => HP.out v w9 ys hall)
  have hc := hv.cell
  have hD' : w.heap.size ≤ D := by have := HSZ.out; omega
  clear hall HP
  gi_wp2
  refine ⟨by simp, .inl ⟨_, _, rfl, run_takeDeferred hK, ?_⟩⟩
  refine ⟨v, by simp [results, Tryz.f72, go_sem], HF.out _ (ownsRow_putObj (rowLow hrow) _ hK rfl) (hB.trans (belowK_b (w := w) (Nat.le_refl _) W D _ _ hD' hK rfl rfl))⟩
end
section
open Go.RowKit Go.Shelf
theorem heap_setU {W : World} {b i : Nat} {cs : Array Value} {t : TypeId} (u : Value) (h : W.heap[b]? = some (.cells cs t (0, 0))) : (W.setCell ⟨b, i, none⟩ u).heap[b]? = some (.cells (cs.setIfInBounds i u) t (0, 0)) := by
 obtain ⟨hlt, hk⟩ := Array.getElem?_eq_some_iff.1 h
 show (W.heap.modify b _)[b]? = _
 rw [Array.getElem?_eq_getElem (by rw [Array.size_modify]; exact hlt), Array.getElem_modify_self, hk]
 rfl
theorem lt_heapU {W : World} {k : Nat} {o : Obj} (h : W.heap[k]? = some o) : k < W.heap.size := (Array.getElem?_eq_some_iff.1 h).1
structure Fb (w W : World) (cs : Array Value) (st : List Fld) : Prop where
 hx : W.heap[w.heap.size]? = some (.cells cs 43 (0, 0))
 ho : ∃ v, W.heap[w.heap.size + 1]? = some (.cells #[v] 51 (0, 0)) ∧ OwnF W (w.heap.size + 2) v st
 b : Below w.heap.size w W
theorem OwnF.onU {w w' : World} {base : Nat} {v : Value} {st : List Fld} (h : OwnF w base v st) (hb : Below w.heap.size w w') : OwnF w' base v st := World.ownsRow.kept h (grown_below hb) (by cases v.ownBlock <;> simp)
theorem Fb.on {w W W' : World} {cs : Array Value} {st : List Fld} (h : Fb w W cs st) (hb : Below W.heap.size W W') : Fb w W' cs st := by
 obtain ⟨v, h1, h2⟩ := h.ho
 exact ⟨(hb.block _ (lt_heapU h.hx)).trans h.hx, ⟨v, (hb.block _ (lt_heapU h1)).trans h1, h2.onU hb⟩, h.b.trans (hb.mono h.b.size)⟩
theorem Fb.new (w : World) (cs : Array Value) : Fb w ((w.alloc (.cells cs 43)).alloc (.cells #[.slice none 0 0] 51)) cs [] := by
 have a1 := heap_alloc_new w (.cells cs 43)
 have b1 := (Below.refl w.heap.size w).alloc (Nat.le_refl _) (.cells cs 43)
 have a2 := heap_alloc_new (w.alloc (.cells cs 43)) (.cells #[.slice none 0 0] 51)
 have b2 := (Below.refl (w.alloc (.cells cs 43)).heap.size (w.alloc (.cells cs 43))).alloc (Nat.le_refl _) (.cells #[.slice none 0 0] 51)
 rw [World.size_alloc] at a2
 exact ⟨(b2.block _ (lt_heapU a1)).trans a1, ⟨_, a2, OwnF.nil _ _⟩, b1.trans (b2.mono b1.size)⟩
theorem add0 (b : Nat) (N : ByteArray) (W : World) : Calls Tryz.prog 39 #[.string N, .string ⟨#[]⟩, .pointer (some ⟨b, 0, none⟩)] W fun e w' => e = .returned (.tuple #[]) ∧ w' = W := by
 go_enter Tryz.func39, Tryz.ntmps39
 go_wp2
 go_end0
 exact ⟨rfl, rfl⟩
theorem add1 (N T : ByteArray) (hT : (T.toList == []) = false) {w W : World} {cs : Array Value} {st : List Fld} (hst : st.length ≤ 20) (h : Fb w W cs st) : Calls Tryz.prog 39 #[.string N, .string T, .pointer (some ⟨w.heap.size + 1, 0, none⟩)] W fun e w' => e = .returned (.tuple #[]) ∧ Fb w w' cs (st ++ [(N.data.toList, T.data.toList)]) := by
 obtain ⟨v, hv, ho⟩ := h.ho
 have HH := Lib.hid h
 obtain ⟨va, vc, rfl, -⟩ := ho.shape
 have HO := Lib.hid ho
 have HV := Lib.hid hv
 have HO3 : Hid (World.ownsRow W (w.heap.size + 2) 79 2 (.slice va st.length vc) st.length (fcells st)) := Lib.hid ho
 obtain ⟨n, hN⟩ : ∃ n, st.length = n := ⟨_, rfl⟩
 have HN := Lib.hid hN
 rw [hN] at hst
 have c0 := cell_heap (i := 0) hv rfl
 rw [hN] at c0
 have hsz := h.b.size
 have hlt := lt_heapU hv
 have HAPP : Hid (∀ v' w3, w3.ownsRow (w.heap.size + 2) 79 2 v' (n + 1) (fcells st ++ [.string N, .string T]) → OwnF w3 (w.heap.size + 2) v' (st ++ [(N.data.toList, T.data.toList)])) := Lib.hid (fun v' w3 h => OwnF.app (f := (N.data.toList, T.data.toList)) rfl rfl (by rw [hN]; exact h))
 rw [hN] at HO3
 generalize fcells st = T0 at *
 obtain ⟨i0, hi, hz0, hz1, hz2'⟩ := info_parts infoF
 clear hv ho hN h
 go_enter Tryz.func39, Tryz.ntmps39
 go_wp2_with (at_builtin; refine wpList_append_own _ rfl _ _ 51 rfl (w.heap.size + 2) 79 i0 _ 2 32 Tryz.underlying51 hi hz0 hz1 hz2' rfl (by decide) _ _ _ rfl (World.ownsRow.alloc HO3.out _) ⟨W.heap.size, 0, none⟩ 1 1 [.string N, .string T] rfl rfl (news2 _ _ _ rfl) (one2 _ _) (by unfold maxLen; omega) (by omega) (by simp; omega) ?_)
 intro v' w4 hown' hgrow _
 have hb4 : Below w.heap.size w w4 := (HH.out.b.alloc hsz _).grown hgrow (by simp; omega) (fun k hk => by have := (World.ownsRow.lt HO3.out k hk).1; omega)
 have hx4 : w4.heap[w.heap.size]? = some (.cells cs 43 (0, 0)) := by
  have e1 := ((Below.refl W.heap.size W).alloc (Nat.le_refl _) (.cells #[.string N, .string T] 79)).block _ (lt_heapU HH.out.hx)
  exact (hgrow.block _ (by simp; have := lt_heapU HH.out.hx; omega) (fun e => by have := (World.ownsRow.lt HO3.out _ e.symm).1; omega)).trans (e1.trans HH.out.hx)
 have hv4 : w4.heap[w.heap.size + 1]? = some (.cells #[.slice va n vc] 51 (0, 0)) := by
  have e1 := ((Below.refl W.heap.size W).alloc (Nat.le_refl _) (.cells #[.string N, .string T] 79)).block _ (lt_heapU HV.out)
  have := HV.out
  rw [HN.out] at this
  exact (hgrow.block _ (by simp; omega) (fun e => by have := (World.ownsRow.lt HO3.out _ e.symm).1; omega)).trans (e1.trans this)
 have HOA := Lib.hid (HAPP.out _ _ hown')
 obtain ⟨va', vc', hv', -⟩ := HOA.out.shape
 rw [List.length_append, HN.out] at hv'
 subst hv'
 have HB4 := Lib.hid hb4
 have HX4 := Lib.hid hx4
 have HV4 := Lib.hid hv4
 have q0 := cell_heap (i := 0) hv4 rfl
 have f0 := frozen_of_row _ _ 0 _ _ hv4
 clear hown' hgrow hb4 hx4 hv4 HO3 HAPP HO HV HH c0
 go_wp2
 go_end0
 refine ⟨rfl, (Below.heap_setCell _ _ _ _ (by simp)).trans HX4.out, ⟨_, by have := heap_setU (i := 0) (.slice va' (n + [(N.data.toList, T.data.toList)].length) vc') HV4.out; simpa using this, ?_⟩, HB4.out.setCell (p := ⟨w.heap.size + 1, 0, none⟩) (by simp) _⟩
 have h1 : w4.ownsRow (w.heap.size + 2) 79 2 (.slice va' (n + [(N.data.toList, T.data.toList)].length) vc') (st ++ [(N.data.toList, T.data.toList)]).length (fcells (st ++ [(N.data.toList, T.data.toList)])) := HOA.out
 refine ⟨h1.1, ?_⟩
 rcases h1.2 with hn | ⟨g, cap, cur, hv, hb', hg, rest⟩
 ·
  exact .inl hn
 ·
  exact .inr ⟨g, cap, cur, hv, hb', (Below.heap_setCell _ _ _ _ (by simp; omega)).trans hg, rest⟩
end
section
open Go.RowKit Go.Shelf
end
section
open Go.RowKit Go.Shelf
theorem getF_hit {fs : List Fld} {x : Bs} {k : Nat} {f : Fld} (H : hasN x (fs.take k) = false) (hfk : fs[k]? = some f) (hq : sameB f.1 x = true) : getF fs x = (f.2, true) := by
 obtain ⟨hk, e⟩ := List.getElem?_eq_some_iff.1 hfk
 have h1 : fs.find? (fun f => decide (lower f.1 = lower x)) = some f := by
  rw [List.find?_eq_some_iff_getElem]
  refine ⟨hq, k, hk, e, fun j hj => ?_⟩
  have h2 : hasN x (fs.take k) = false := H
  unfold hasN at h2
  rw [List.any_eq_false] at h2
  have := h2 fs[j] (List.mem_of_getElem? (i := j) (by rw [List.getElem?_take, if_pos hj]; exact List.getElem?_eq_getElem (by omega)))
  simpa [sameB] using this
 unfold getF
 rw [h1]
theorem getF_miss {fs : List Fld} {x : Bs} (H : hasN x fs = false) : getF fs x = ([], false) := by
 have h1 : fs.find? (fun f => decide (lower f.1 = lower x)) = none := by
  rw [List.find?_eq_none]
  intro f hf
  unfold hasN at H
  rw [List.any_eq_false] at H
  simpa [sameB] using H f hf
 unfold getF
 rw [h1]
def GetVPost (x : Bs) (fs : List Fld) (w : World) (e : Ending) (w' : World) : Prop := e = .returned (.tuple #[.string ⟨(getF fs x).1.toArray⟩, .bool (getF fs x).2]) ∧ Below w.heap.size w w'
theorem getV_any (v : Value) (fs : List Fld) (x : ByteArray) (hf : fs.length ≤ 90000) (hfs : ∀ f ∈ fs, f.1.length ≤ 90000 ∧ f.2.length ≤ 90000) (hx : x.size ≤ 90000) (w : World) (h : HoldR 2 w v (fs.map rowF)) :
  Calls Tryz.prog 68 #[v, .string x] w (GetVPost x.data.toList fs w) := by
 have HH := Lib.hid h
 have HS := Lib.hid hfs
 obtain ⟨a, c, b, o, rfl, hc, ha, hcell⟩ := h
 obtain ⟨n, hn⟩ : ∃ n, fs.length = n := ⟨_, rfl⟩
 have HN := Lib.hid hn
 rw [List.length_map, hn] at hc ha ⊢
 rw [List.length_map] at HH
 rw [hn] at hf HH
 clear hcell hfs hn
 have HP : Hid (∀ (T : ByteArray) w' b, getF fs x.data.toList = (T.data.toList, b) → Below w.heap.size w w' → GetVPost x.data.toList fs w (.returned (.tuple #[.string T, .bool b])) w') := Lib.hid (fun T w' b h1 h2 => ⟨by rw [h1, ← strOf (x := T) rfl], h2⟩)
 have SN := fun (y : ByteArray) (hy : y.size ≤ 100000) w => sameName_any y x hy (by omega) w
 go_enter Tryz.func68, Tryz.ntmps68
 go_wp2
 go_loopw [10] (fun i wr => ∃ k : Nat, k ≤ n ∧ i = .int .i64 k ∧ Hid (hasN x.data.toList (fs.take k) = false) ∧ Hid (Below w.heap.size w wr)) (fun i _ => n - (intOf i).toNat)
 case atStart => exact ⟨0, by omega, rfl, Lib.hid rfl, Lib.hid (Below.refl _ _)⟩
 case round =>
  obtain ⟨k, hk, rfl, H, HB⟩ := hrel
  by_cases hlt : k < n
  ·
   obtain ⟨rfl, hbw⟩ := ha (by omega)
   obtain ⟨f, hfk⟩ : ∃ f, fs[k]? = some f := ⟨_, List.getElem?_eq_getElem (by rw [HN.out]; exact hlt)⟩
   have hfm := HS.out f (List.mem_of_getElem? hfk)
   obtain ⟨X, hX⟩ : ∃ X : ByteArray, X.data.toList = f.1 := ⟨⟨f.1.toArray⟩, by simp⟩
   obtain ⟨Y, hY⟩ : ∃ Y : ByteArray, Y.data.toList = f.2 := ⟨⟨f.2.toArray⟩, by simp⟩
   obtain ⟨d0, d1⟩ := rowF_cells (HH.out.on HB.out) hfk hX hY
   have hXs : X.size ≤ 100000 := by rw [sizeOf, hX]; omega
   have S := SN X hXs
   have hst := hasN_take (x := x.data.toList) hfk
   rw [H.out, Bool.false_or, ← hX] at hst
   have hsz := HB.out.size
   have HBX : Hid (Below w.heap.size w (wr.alloc (.cells #[.string X, .string Y] 79))) := Lib.hid (HB.out.alloc hsz _)
   have hsub : hasN x.data.toList (fs.take (k + 1)) = true → hasN x.data.toList fs = true := fun g => by
    unfold hasN at g ⊢
    rw [List.any_eq_true] at g ⊢
    obtain ⟨y, hy, hy2⟩ := g
    exact ⟨y, List.mem_of_mem_take hy, hy2⟩
   obtain ⟨q, hq⟩ : ∃ q, sameB X.data.toList x.data.toList = q := ⟨_, rfl⟩
   have HQQ := Lib.hid hq
   rw [hq] at hst S
   clear hq
   cases q
   ·
    have HK := Lib.hid hst
    clear hst hsub hX hY hfm hfk SN H
    go_wp2_with (go_at_call 116; refine (S _).mono ?_; rintro e w1 ⟨rfl, q, rfl⟩)
    go_roundw
    case rel => exact ⟨k + 1, by omega, by go_num, HK, Lib.hid (belowQ HBX.out q)⟩
    case measure => simp [intOf]; omega
   ·
    have HK : Hid (getF fs x.data.toList = (Y.data.toList, true)) := Lib.hid (by rw [hY]; exact getF_hit H.out hfk (by rw [← hX]; exact HQQ.out))
    clear hst hsub hX hY hfm hfk SN H
    go_wp2_with (go_at_call 116; refine (S _).mono ?_; rintro e w1 ⟨rfl, q, rfl⟩)
    go_ret2
    exact HP.out Y _ true HK.out (belowQ HBX.out q)
  ·
   obtain rfl : k = n := by omega
   have HK : Hid (hasN x.data.toList fs = false) := Lib.hid (by have := H.out; rwa [List.take_of_length_le (by rw [HN.out]; omega)] at this)
   clear hlt SN H
   go_wp2
   go_ret2
   exact HP.out ⟨#[]⟩ _ false (getF_miss HK.out) HB.out
structure Rb (w W : World) (v : Value) (cs : Array Value) : Prop where
 h0 : W.heap[w.heap.size]? = some (.cells #[v] 51 (0, 0))
 h1 : W.heap[w.heap.size + 1]? = some (.cells cs 43 (0, 0))
 b : Below w.heap.size w W
theorem Rb.on {w W W' : World} {v : Value} {cs : Array Value} (h : Rb w W v cs) (hb : Below W.heap.size W W') : Rb w W' v cs :=
 ⟨(hb.block _ (lt_heapU h.h0)).trans h.h0, (hb.block _ (lt_heapU h.h1)).trans h.h1, h.b.trans (hb.mono h.b.size)⟩
theorem Rb.new (w : World) (v : Value) (cs : Array Value) : Rb w ((w.alloc (.cells #[v] 51)).alloc (.cells cs 43)) v cs := by
 have a1 := heap_alloc_new w (.cells #[v] 51)
 have b1 := (Below.refl w.heap.size w).alloc (Nat.le_refl _) (.cells #[v] 51)
 have a2 := heap_alloc_new (w.alloc (.cells #[v] 51)) (.cells cs 43)
 have b2 := (Below.refl (w.alloc (.cells #[v] 51)).heap.size (w.alloc (.cells #[v] 51))).alloc (Nat.le_refl _) (.cells cs 43)
 rw [World.size_alloc] at a2
 exact ⟨(b2.block _ (lt_heapU a1)).trans a1, a2, b1.trans (b2.mono b1.size)⟩
abbrev nine (W : World) (b : Nat) (u0 u1 u2 u3 u4 u5 u6 u7 u8 : Value) : World := ((((((((W.setCell ⟨b, 0, none⟩ u0).setCell ⟨b, 1, none⟩ u1).setCell ⟨b, 2, none⟩ u2).setCell ⟨b, 3, none⟩ u3).setCell ⟨b, 4, none⟩ u4).setCell ⟨b, 5, none⟩ u5).setCell ⟨b, 6, none⟩ u6).setCell ⟨b, 7, none⟩ u7).setCell ⟨b, 8, none⟩ u8
theorem nine_cells {W : World} {b : Nat} {a0 a1 a2 a3 a4 a5 a6 a7 a8 : Value} {t : TypeId} (u0 u1 u2 u3 u4 u5 u6 u7 u8 : Value) (h : W.heap[b]? = some (.cells #[a0, a1, a2, a3, a4, a5, a6, a7, a8] t (0, 0))) :
  (nine W b u0 u1 u2 u3 u4 u5 u6 u7 u8).cell? ⟨b, 0, none⟩ = some u0 ∧ (nine W b u0 u1 u2 u3 u4 u5 u6 u7 u8).cell? ⟨b, 1, none⟩ = some u1 ∧ (nine W b u0 u1 u2 u3 u4 u5 u6 u7 u8).cell? ⟨b, 2, none⟩ = some u2 ∧ (nine W b u0 u1 u2 u3 u4 u5 u6 u7 u8).cell? ⟨b, 3, none⟩ = some u3 ∧ (nine W b u0 u1 u2 u3 u4 u5 u6 u7 u8).cell? ⟨b, 4, none⟩ = some u4 ∧ (nine W b u0 u1 u2 u3 u4 u5 u6 u7 u8).cell? ⟨b, 5, none⟩ = some u5 ∧ (nine W b u0 u1 u2 u3 u4 u5 u6 u7 u8).cell? ⟨b, 6, none⟩ = some u6 ∧ (nine W b u0 u1 u2 u3 u4 u5 u6 u7 u8).cell? ⟨b, 7, none⟩ = some u7 ∧ (nine W b u0 u1 u2 u3 u4 u5 u6 u7 u8).cell? ⟨b, 8, none⟩ = some u8 := by
 have h0 : (W.setCell ⟨b, 0, none⟩ u0).heap[b]? = some (.cells #[u0, a1, a2, a3, a4, a5, a6, a7, a8] t (0, 0)) := by have := heap_setU (i := 0) u0 h; simpa using this
 have h1 : ((W.setCell ⟨b, 0, none⟩ u0).setCell ⟨b, 1, none⟩ u1).heap[b]? = some (.cells #[u0, u1, a2, a3, a4, a5, a6, a7, a8] t (0, 0)) := by have := heap_setU (i := 1) u1 h0; simpa using this
 have h2 : (((W.setCell ⟨b, 0, none⟩ u0).setCell ⟨b, 1, none⟩ u1).setCell ⟨b, 2, none⟩ u2).heap[b]? = some (.cells #[u0, u1, u2, a3, a4, a5, a6, a7, a8] t (0, 0)) := by have := heap_setU (i := 2) u2 h1; simpa using this
 have h3 : ((((W.setCell ⟨b, 0, none⟩ u0).setCell ⟨b, 1, none⟩ u1).setCell ⟨b, 2, none⟩ u2).setCell ⟨b, 3, none⟩ u3).heap[b]? = some (.cells #[u0, u1, u2, u3, a4, a5, a6, a7, a8] t (0, 0)) := by have := heap_setU (i := 3) u3 h2; simpa using this
 have h4 : (((((W.setCell ⟨b, 0, none⟩ u0).setCell ⟨b, 1, none⟩ u1).setCell ⟨b, 2, none⟩ u2).setCell ⟨b, 3, none⟩ u3).setCell ⟨b, 4, none⟩ u4).heap[b]? = some (.cells #[u0, u1, u2, u3, u4, a5, a6, a7, a8] t (0, 0)) := by have := heap_setU (i := 4) u4 h3; simpa using this
 have h5 : ((((((W.setCell ⟨b, 0, none⟩ u0).setCell ⟨b, 1, none⟩ u1).setCell ⟨b, 2, none⟩ u2).setCell ⟨b, 3, none⟩ u3).setCell ⟨b, 4, none⟩ u4).setCell ⟨b, 5, none⟩ u5).heap[b]? = some (.cells #[u0, u1, u2, u3, u4, u5, a6, a7, a8] t (0, 0)) := by have := heap_setU (i := 5) u5 h4; simpa using this
 have h6 : (((((((W.setCell ⟨b, 0, none⟩ u0).setCell ⟨b, 1, none⟩ u1).setCell ⟨b, 2, none⟩ u2).setCell ⟨b, 3, none⟩ u3).setCell ⟨b, 4, none⟩ u4).setCell ⟨b, 5, none⟩ u5).setCell ⟨b, 6, none⟩ u6).heap[b]? = some (.cells #[u0, u1, u2, u3, u4, u5, u6, a7, a8] t (0, 0)) := by have := heap_setU (i := 6) u6 h5; simpa using this
 have h7 : ((((((((W.setCell ⟨b, 0, none⟩ u0).setCell ⟨b, 1, none⟩ u1).setCell ⟨b, 2, none⟩ u2).setCell ⟨b, 3, none⟩ u3).setCell ⟨b, 4, none⟩ u4).setCell ⟨b, 5, none⟩ u5).setCell ⟨b, 6, none⟩ u6).setCell ⟨b, 7, none⟩ u7).heap[b]? = some (.cells #[u0, u1, u2, u3, u4, u5, u6, u7, a8] t (0, 0)) := by have := heap_setU (i := 7) u7 h6; simpa using this
 have h8 : (((((((((W.setCell ⟨b, 0, none⟩ u0).setCell ⟨b, 1, none⟩ u1).setCell ⟨b, 2, none⟩ u2).setCell ⟨b, 3, none⟩ u3).setCell ⟨b, 4, none⟩ u4).setCell ⟨b, 5, none⟩ u5).setCell ⟨b, 6, none⟩ u6).setCell ⟨b, 7, none⟩ u7).setCell ⟨b, 8, none⟩ u8).heap[b]? = some (.cells #[u0, u1, u2, u3, u4, u5, u6, u7, u8] t (0, 0)) := by have := heap_setU (i := 8) u8 h7; simpa using this
 exact ⟨cell_heap (i := 0) h8 (by simp), cell_heap (i := 1) h8 (by simp), cell_heap (i := 2) h8 (by simp), cell_heap (i := 3) h8 (by simp), cell_heap (i := 4) h8 (by simp), cell_heap (i := 5) h8 (by simp), cell_heap (i := 6) h8 (by simp), cell_heap (i := 7) h8 (by simp), cell_heap (i := 8) h8 (by simp)⟩
theorem nine_below {B : Nat} {w W : World} (h : Below B w W) {b : Nat} (hb : B ≤ b) (u0 u1 u2 u3 u4 u5 u6 u7 u8 : Value) : Below B w (nine W b u0 u1 u2 u3 u4 u5 u6 u7 u8) :=
 ((((((((h.setCell (p := ⟨b, 0, none⟩) hb u0).setCell (p := ⟨b, 1, none⟩) hb u1).setCell (p := ⟨b, 2, none⟩) hb u2).setCell (p := ⟨b, 3, none⟩) hb u3).setCell (p := ⟨b, 4, none⟩) hb u4).setCell (p := ⟨b, 5, none⟩) hb u5).setCell (p := ⟨b, 6, none⟩) hb u6).setCell (p := ⟨b, 7, none⟩) hb u7).setCell (p := ⟨b, 8, none⟩) hb u8
end
section
open Go.RowKit Go.Shelf
theorem infoU : (Tryz.prog.info? 43).map (fun i => (i.zero, i.size, i.bytes)) = some (some (.agg #[.string ⟨#[]⟩, .string ⟨#[]⟩, .int .i64 0, .slice none 0 0, .slice none 0 0, .slice none 0 0, .slice none 0 0, .slice none 0 0, .slice none 0 0]), 9, 184) := by kernel_rfl
end
end Go.Proofs.YtkbkaeefdhkgdaaGreatDoor
