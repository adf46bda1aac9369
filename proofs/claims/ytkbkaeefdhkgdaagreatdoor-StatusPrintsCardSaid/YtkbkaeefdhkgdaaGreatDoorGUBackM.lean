import Derived.Test.YtkbkaeefdhkgdaaGreatDoorGUFit
import Derived.Test.YtkbkaeefdhkgdaaGreatDoorGURefP
import Derived.Test.YtkbkaeefdhkgdaaGreatDoorGUSame
namespace Go.Proofs.YtkbkaeefdhkgdaaGreatDoor
section
open Go.RowKit
end
section
open Go.RowKit Go.Lib
end
section
open Go.RowKit
end
section
open Go.RowKit
end
section
open Go.RowKit
end
section
open Go.RowKit
end
section
open Go.RowKit Go.Shelf
theorem OwnRec.setU {w w' : World} {B b : Nat} {x : Uv} (h : OwnRec w B x) (hg : w.grownBy w' (some b)) (hb : b < B) : OwnRec w' B x :=
 ⟨OwnGs.setU h.dp hg hb, OwnV.setU h.cn hg hb, OwnT.setU h.rp hg hb, OwnV.setU h.cf hg hb, OwnT.setU h.pd hg hb, OwnT.setU h.aw hg hb⟩
structure PS (wr W : World) (x : Uv) : Prop where
 hx : W.heap[wr.heap.size]? = some (.cells (cellsU x).toArray 43 (0, 0))
 b : Below wr.heap.size wr W
 o : OwnRec W (wr.heap.size + 1) x
theorem PS.lt {wr W : World} {x : Uv} (h : PS wr W x) : wr.heap.size < W.heap.size := lt_heapU h.hx
theorem PS.on {wr W W' : World} {x : Uv} (h : PS wr W x) (hb : Below W.heap.size W W') : PS wr W' x :=
 ⟨(hb.block _ h.lt).trans h.hx, h.b.trans (hb.mono h.b.size), h.o.on hb⟩
theorem PS.new (wr : World) (nm vr : Bs) (st : Int) : PS wr (wr.alloc (.cells #[.string ⟨nm.toArray⟩, .string ⟨vr.toArray⟩, .int .i64 st, .slice none 0 0, .slice none 0 0, .slice none 0 0, .slice none 0 0, .slice none 0 0, .slice none 0 0] 43)) ⟨nm, vr, st, [], [], [], [], [], [], .slice none 0 0, .slice none 0 0, .slice none 0 0, .slice none 0 0, .slice none 0 0, .slice none 0 0⟩ :=
 ⟨heap_alloc_new wr _, (Below.refl _ _).alloc (Nat.le_refl _) _, ⟨OwnGs.nil _ _, OwnV.nil _ _ _ _, OwnT.nil _ _, OwnV.nil _ _ _ _, OwnT.nil _ _, OwnT.nil _ _⟩⟩
theorem PS.app {wr W w7 : World} {ob : Obj} {nm vr : Bs} {st : Int} {dp : List Gv} {cn : List Rl} {rp pd aw : List Bs} {CF : List (Bs × Bs)} {v3 v4 v5 v6 v7 v8 v' : Value} {c : Bs × Bs} (h : PS wr W ⟨nm, vr, st, dp, cn, rp, CF, pd, aw, v3, v4, v5, v6, v7, v8⟩) (hown : w7.ownsRow (wr.heap.size + 1) 48 2 v' ((CF.map cellsW2).length + 1) ((CF.map cellsW2).flatten ++ cellsW2 c)) (hg : (W.alloc ob).grownBy w7 v6.ownBlock) : PS wr (w7.setCell ⟨wr.heap.size, 6, none⟩ v') ⟨nm, vr, st, dp, cn, rp, CF ++ [c], pd, aw, v3, v4, v5, v', v7, v8⟩ := by
 have hlt := h.lt
 have hcf := h.o.cf
 have hx7 := (hg.block wr.heap.size (by simp; omega) (fun e => by have := (World.ownsRow.lt hcf.2 _ e.symm).1; omega)).trans ((((Below.refl W.heap.size W).alloc (Nat.le_refl _) ob).block _ hlt).trans h.hx)
 have hb7 : Below wr.heap.size wr w7 := (h.b.alloc h.b.size ob).grown hg (by simp; omega) (fun j hj => by have := (World.ownsRow.lt hcf.2 j hj).1; omega)
 have hgs := grownSetU w7 ⟨wr.heap.size, 6, none⟩ v'
 have hl := Nat.lt_succ_self wr.heap.size
 refine ⟨heap_setU v' hx7, hb7.setCell (p := ⟨wr.heap.size, 6, none⟩) (Nat.le_refl _) v', ⟨?_, ?_, ?_, ?_, ?_, ?_⟩⟩
 ·
  exact OwnGs.setU ⟨⟨h.o.dp.1.1, World.ownsRow.kept (World.ownsRow.alloc h.o.dp.1.2 ob) hg (kinds_apart h.o.dp.1.2 hcf.2 (by decide))⟩, fun y hy => ⟨(h.o.dp.2 y hy).1, World.ownsRow.kept (World.ownsRow.alloc (h.o.dp.2 y hy).2 ob) hg (kinds_apart (h.o.dp.2 y hy).2 hcf.2 (by decide))⟩⟩ hgs hl
 ·
  exact OwnV.setU ⟨h.o.cn.1, World.ownsRow.kept (World.ownsRow.alloc h.o.cn.2 ob) hg (kinds_apart h.o.cn.2 hcf.2 (by decide))⟩ hgs hl
 ·
  exact OwnT.setU (World.ownsRow.kept (World.ownsRow.alloc h.o.rp ob) hg (kinds_apart h.o.rp hcf.2 (by decide))) hgs hl
 ·
  refine OwnV.setU (b := wr.heap.size) ?_ hgs hl
  have := OwnV.app hcf.1 rfl hown
  rw [show (CF ++ [c]).map cellsW2 = CF.map cellsW2 ++ [cellsW2 c] by rw [List.map_append]; rfl]
  exact this
 ·
  exact OwnT.setU (World.ownsRow.kept (World.ownsRow.alloc h.o.pd ob) hg (kinds_apart h.o.pd hcf.2 (by decide))) hgs hl
 ·
  exact OwnT.setU (World.ownsRow.kept (World.ownsRow.alloc h.o.aw ob) hg (kinds_apart h.o.aw hcf.2 (by decide))) hgs hl
theorem PS.cell {wr W : World} {x : Uv} (h : PS wr W x) : (W.cell? ⟨wr.heap.size, 0, none⟩ = some (.string ⟨x.nm.toArray⟩) ∧ W.cell? ⟨wr.heap.size, 1, none⟩ = some (.string ⟨x.vr.toArray⟩) ∧ W.cell? ⟨wr.heap.size, 2, none⟩ = some (.int .i64 x.st) ∧ W.cell? ⟨wr.heap.size, 3, none⟩ = some x.dv ∧ W.cell? ⟨wr.heap.size, 4, none⟩ = some x.cv ∧ W.cell? ⟨wr.heap.size, 5, none⟩ = some x.rv ∧ W.cell? ⟨wr.heap.size, 6, none⟩ = some x.fv ∧ W.cell? ⟨wr.heap.size, 7, none⟩ = some x.pv ∧ W.cell? ⟨wr.heap.size, 8, none⟩ = some x.av) :=
 ⟨cell_heap (i := 0) h.hx rfl, cell_heap (i := 1) h.hx rfl, cell_heap (i := 2) h.hx rfl, cell_heap (i := 3) h.hx rfl, cell_heap (i := 4) h.hx rfl, cell_heap (i := 5) h.hx rfl, cell_heap (i := 6) h.hx rfl, cell_heap (i := 7) h.hx rfl, cell_heap (i := 8) h.hx rfl⟩
end
section
open Go.RowKit Go.Shelf
structure RecOfR (f : List Fld) (x : Uv) : Prop where
 nm : x.nm = fT f [80, 97, 99, 107, 97, 103, 101]
 vr : x.vr = fT f [86, 101, 114, 115, 105, 111, 110]
 st : x.st = stateU (fT f [83, 116, 97, 116, 117, 115])
 dp : fsts x.dp = (parseA (fT f [68, 101, 112, 101, 110, 100, 115])).getD []
 cn : x.cn = (parseQ (fT f [67, 111, 110, 102, 108, 105, 99, 116, 115])).getD []
 rp : x.rp = wordsL (fT f [82, 101, 112, 108, 97, 99, 101, 115])
 cf : x.cf = cfReadR (fT f [67, 111, 110, 102, 102, 105, 108, 101, 115])
 pd : x.pd = wordsL (fT f [84, 114, 105, 103, 103, 101, 114, 115, 45, 80, 101, 110, 100, 105, 110, 103])
 aw : x.aw = wordsL (fT f [84, 114, 105, 103, 103, 101, 114, 115, 45, 65, 119, 97, 105, 116, 101, 100])
def RecsOfR (fs : List (List Fld)) (L : List Uv) : Prop := L.length = fs.length ∧ ∀ (k : Nat) f x, fs[k]? = some f → L[k]? = some x → RecOfR f x
theorem RecsOfR.nil : RecsOfR [] [] := ⟨rfl, fun k f x h => by simp at h⟩
theorem RecsOfR.app {fs : List (List Fld)} {L : List Uv} {f : List Fld} {x : Uv} (h : RecsOfR fs L) (hx : RecOfR f x) : RecsOfR (fs ++ [f]) (L ++ [x]) := by
 refine ⟨by simp [h.1], fun k g y h1 h2 => ?_⟩
 by_cases hk : k < fs.length
 ·
  rw [List.getElem?_append_left hk] at h1
  rw [List.getElem?_append_left (by rw [h.1]; exact hk)] at h2
  exact h.2 k g y h1 h2
 ·
  rw [List.getElem?_append_right (by omega)] at h1
  rw [List.getElem?_append_right (by rw [h.1]; omega), h.1] at h2
  match hj : k - fs.length with
  | 0 => rw [hj] at h1 h2; simp at h1 h2; subst h1; subst h2; exact hx
  | j + 1 => rw [hj] at h1; simp at h1
end
section
open Go.RowKit Go.Shelf Go.Lib
theorem right_alike {x y : Uv} (h : AlikeU x y) : rightU x = rightU y := by
 unfold rightU
 rw [h.nm, h.vr, h.st, h.dp, h.cn, h.rp, h.cf, h.pd, h.aw]
theorem fields_alike {x y : Uv} (h : AlikeU x y) : fieldsU x = fieldsU y := by
 unfold fieldsU
 rw [h.nm, h.vr, h.st, h.dp, h.cn, h.rp, h.cf, h.pd, h.aw]
theorem AlikeU.symm {x y : Uv} (h : AlikeU x y) : AlikeU y x := ⟨h.nm.symm, h.vr.symm, h.st.symm, h.dp.symm, h.cn.symm, h.rp.symm, h.cf.symm, h.pd.symm, h.aw.symm⟩
theorem steps_alike {L M : List Uv} (hl : L.length = M.length) (ha : ∀ (k : Nat) x y, L[k]? = some x → M[k]? = some y → AlikeU x y) (h : StepsK rightU (fun x => x.nm) L) : StepsK rightU (fun x => x.nm) M := fun i y hy => by
 have hi := (List.getElem?_eq_some_iff.1 hy).1
 have hx : L[i]? = some L[i] := List.getElem?_eq_getElem (by rw [hl]; exact hi)
 have hxy := ha i _ _ hx hy
 obtain ⟨g1, g2⟩ := h i _ hx
 refine ⟨by rw [← right_alike hxy]; exact g1, fun z h0 hz => ?_⟩
 have hj := (List.getElem?_eq_some_iff.1 hz).1
 have hw : L[i - 1]? = some L[i - 1] := List.getElem?_eq_getElem (by rw [hl]; exact hj)
 have hwz := ha (i - 1) _ _ hw hz
 have := g2 _ h0 hw
 simp only at this ⊢
 rw [← hwz.nm, ← hxy.nm]; exact this
theorem print_alike {L M : List Uv} (hl : L.length = M.length) (ha : ∀ (k : Nat) x y, L[k]? = some x → M[k]? = some y → AlikeU x y) : printUE L = printUE M := by
 have hk : kchkK rightU (fun x => x.nm) L = kchkK rightU (fun x => x.nm) M := by
  by_cases h64 : 64 < L.length
  ·
   rw [kchkK_long h64, kchkK_long (by rw [← hl]; exact h64)]
  ·
   by_cases g : StepsK rightU (fun x => x.nm) L
   ·
    rw [kchkK_ok h64 g, kchkK_ok (by rw [← hl]; exact h64) (steps_alike hl ha g)]
   ·
    rw [kchkK_no h64 g, kchkK_no (by rw [← hl]; exact h64) (fun q => g (steps_alike hl.symm (fun k x y hx hy => (ha k y x hy hx).symm) q))]
 have hm : L.map fieldsU = M.map fieldsU := by
  apply List.ext_getElem?
  intro k
  rw [List.getElem?_map, List.getElem?_map]
  by_cases hk : k < L.length
  ·
   have h1 := List.getElem?_eq_getElem hk
   have h2 := List.getElem?_eq_getElem (l := M) (i := k) (by rw [← hl]; exact hk)
   rw [h1, h2]
   exact congrArg some (fields_alike (ha k _ _ h1 h2))
  ·
   rw [List.getElem?_eq_none (by omega), List.getElem?_eq_none (by omega)]
 unfold printUE
 rw [hk, hm]
end
section
open Go.RowKit Go.Shelf Go.Lib
theorem fT_nm (nm vr : Bs) (z : Int) (dt ct : Bs) (rp : List Bs) (cf : List (Bs × Bs)) (pd aw : List Bs) : fT (fieldsL nm vr z dt ct rp cf pd aw) [80, 97, 99, 107, 97, 103, 101] = nm := by
 unfold fieldsL
 rw [fT_ne (by decide +kernel), fT_ne (by decide +kernel), fT_ne (by decide +kernel), fT_ne (by decide +kernel), fT_ne (by decide +kernel), fT_ne (by decide +kernel), fT_ne (by decide +kernel), fT_ne (by decide +kernel)]
 refine fT_eq ?_
 rfl
theorem fT_st (nm vr : Bs) (z : Int) (dt ct : Bs) (rp : List Bs) (cf : List (Bs × Bs)) (pd aw : List Bs) : fT (fieldsL nm vr z dt ct rp cf pd aw) [83, 116, 97, 116, 117, 115] = wordU z := by
 unfold fieldsL
 rw [fT_ne (by decide +kernel), fT_ne (by decide +kernel), fT_ne (by decide +kernel), fT_ne (by decide +kernel), fT_ne (by decide +kernel), fT_ne (by decide +kernel), fT_ne (by decide +kernel)]
 refine fT_eq ?_
 rw [hasN_ne (by decide +kernel)]
 rfl
theorem fT_vr (nm vr : Bs) (z : Int) (dt ct : Bs) (rp : List Bs) (cf : List (Bs × Bs)) (pd aw : List Bs) : fT (fieldsL nm vr z dt ct rp cf pd aw) [86, 101, 114, 115, 105, 111, 110] = vr := by
 unfold fieldsL
 rw [fT_ne (by decide +kernel), fT_ne (by decide +kernel), fT_ne (by decide +kernel), fT_ne (by decide +kernel), fT_ne (by decide +kernel), fT_ne (by decide +kernel)]
 refine fT_eq ?_
 rw [hasN_ne (by decide +kernel), hasN_ne (by decide +kernel)]
 rfl
theorem fT_dp (nm vr : Bs) (z : Int) (dt ct : Bs) (rp : List Bs) (cf : List (Bs × Bs)) (pd aw : List Bs) : fT (fieldsL nm vr z dt ct rp cf pd aw) [68, 101, 112, 101, 110, 100, 115] = dt := by
 unfold fieldsL
 rw [fT_ne (by decide +kernel), fT_ne (by decide +kernel), fT_ne (by decide +kernel), fT_ne (by decide +kernel), fT_ne (by decide +kernel)]
 refine fT_eq ?_
 rw [hasN_ne (by decide +kernel), hasN_ne (by decide +kernel), hasN_ne (by decide +kernel)]
 rfl
theorem fT_cn (nm vr : Bs) (z : Int) (dt ct : Bs) (rp : List Bs) (cf : List (Bs × Bs)) (pd aw : List Bs) : fT (fieldsL nm vr z dt ct rp cf pd aw) [67, 111, 110, 102, 108, 105, 99, 116, 115] = ct := by
 unfold fieldsL
 rw [fT_ne (by decide +kernel), fT_ne (by decide +kernel), fT_ne (by decide +kernel), fT_ne (by decide +kernel)]
 refine fT_eq ?_
 rw [hasN_ne (by decide +kernel), hasN_ne (by decide +kernel), hasN_ne (by decide +kernel), hasN_ne (by decide +kernel)]
 rfl
theorem fT_rp (nm vr : Bs) (z : Int) (dt ct : Bs) (rp : List Bs) (cf : List (Bs × Bs)) (pd aw : List Bs) : fT (fieldsL nm vr z dt ct rp cf pd aw) [82, 101, 112, 108, 97, 99, 101, 115] = Lib.join rp [32] := by
 unfold fieldsL
 rw [fT_ne (by decide +kernel), fT_ne (by decide +kernel), fT_ne (by decide +kernel)]
 refine fT_eq ?_
 rw [hasN_ne (by decide +kernel), hasN_ne (by decide +kernel), hasN_ne (by decide +kernel), hasN_ne (by decide +kernel), hasN_ne (by decide +kernel)]
 rfl
theorem fT_cf (nm vr : Bs) (z : Int) (dt ct : Bs) (rp : List Bs) (cf : List (Bs × Bs)) (pd aw : List Bs) : fT (fieldsL nm vr z dt ct rp cf pd aw) [67, 111, 110, 102, 102, 105, 108, 101, 115] = cfText cf := by
 unfold fieldsL
 rw [fT_ne (by decide +kernel), fT_ne (by decide +kernel)]
 refine fT_eq ?_
 rw [hasN_ne (by decide +kernel), hasN_ne (by decide +kernel), hasN_ne (by decide +kernel), hasN_ne (by decide +kernel), hasN_ne (by decide +kernel), hasN_ne (by decide +kernel)]
 rfl
theorem fT_pd (nm vr : Bs) (z : Int) (dt ct : Bs) (rp : List Bs) (cf : List (Bs × Bs)) (pd aw : List Bs) : fT (fieldsL nm vr z dt ct rp cf pd aw) [84, 114, 105, 103, 103, 101, 114, 115, 45, 80, 101, 110, 100, 105, 110, 103] = Lib.join pd [32] := by
 unfold fieldsL
 rw [fT_ne (by decide +kernel)]
 refine fT_eq ?_
 rw [hasN_ne (by decide +kernel), hasN_ne (by decide +kernel), hasN_ne (by decide +kernel), hasN_ne (by decide +kernel), hasN_ne (by decide +kernel), hasN_ne (by decide +kernel), hasN_ne (by decide +kernel)]
 rfl
theorem fT_aw (nm vr : Bs) (z : Int) (dt ct : Bs) (rp : List Bs) (cf : List (Bs × Bs)) (pd aw : List Bs) : fT (fieldsL nm vr z dt ct rp cf pd aw) [84, 114, 105, 103, 103, 101, 114, 115, 45, 65, 119, 97, 105, 116, 101, 100] = Lib.join aw [32] := by
 unfold fieldsL
 refine fT_eq ?_
 rw [hasN_ne (by decide +kernel), hasN_ne (by decide +kernel), hasN_ne (by decide +kernel), hasN_ne (by decide +kernel), hasN_ne (by decide +kernel), hasN_ne (by decide +kernel), hasN_ne (by decide +kernel), hasN_ne (by decide +kernel)]
 rfl
theorem stateU_word {z : Int} {a b : Nat} (h : stateOkU z a b = true) : stateU (wordU z) = z := by
 by_cases g : z < 1 ∨ 8 ≤ z
 ·
  exfalso
  have hw : wordU z = [] := by
   by_cases h0 : z = 0
   ·
    subst h0; decide +kernel
   ·
    exact word_out (by omega)
  unfold stateOkU at h
  rw [if_neg (by omega), hw] at h
  simp at h
 ·
  obtain ⟨n, rfl⟩ : ∃ n : Nat, z = n := ⟨z.toNat, by omega⟩
  have hn : n < 8 := by omega
  match n, hn, g with
  | 0, _, g => simp at g
  | 1, _, _ | 2, _, _ | 3, _, _ | 4, _, _ | 5, _, _ | 6, _, _ | 7, _, _ => decide +kernel
theorem words_back : ∀ {l : List Bs}, (∀ p ∈ l, (32 : UInt8) ∉ p ∧ p ≠ []) → wordsL (Lib.join l [32]) = l
 | [], _ => by decide +kernel
 | [p], h => by
  obtain ⟨h1, h2⟩ := h p (by simp)
  rw [join_one]
  unfold wordsL
  rw [spl_no 32 p h1]
  simp [h2]
 | p :: q :: l, h => by
  obtain ⟨h1, h2⟩ := h p (by simp)
  have ih := words_back (l := q :: l) (fun x hx => h x (List.mem_cons_of_mem _ hx))
  have e : Lib.join (p :: q :: l) [32] = p ++ 32 :: Lib.join (q :: l) [32] := by
   rw [join_cons, join_cons]; simp [joinTail]
  unfold wordsL at ih ⊢
  rw [e, spl_at 32 p _ h1, List.filter_cons, ih]
  simp [h2]
theorem allE_back {l : List (List Rl)} (h : (allE l).2 = 0) : parseA (allE l).1 = some l := by
 unfold allE at h ⊢
 split at h
 ·
  cases h
 ·
  rename_i h64
  split at h
  ·
   cases h
  ·
   rename_i hb
   rw [if_neg h64, if_neg hb]
   refine parseA_text ⟨?_, fun g hg => ?_⟩
   ·
    simp at h64; omega
   ·
    rw [Bool.not_eq_true, Bool.or_eq_false_iff] at h64
    have hb1 : badG g = false := by
     rw [Bool.not_eq_true] at hb
     rw [List.any_eq_false] at hb
     simpa using hb g hg
    have hl1 : longG g = false := by
     have := h64.2
     rw [List.any_eq_false] at this
     simpa using this g hg
    have hr := goodG_right (g := g) (by rw [hb1]; simp)
    unfold badG at hb1
    rw [Bool.or_eq_false_iff] at hb1
    have h0 := of_decide_eq_false hb1.1
    unfold longG at hl1
    have h6 := of_decide_eq_false hl1
    exact ⟨fun e => h0 (by rw [e]; rfl), by omega, fun x hx => List.all_eq_true.1 hr x hx⟩
theorem listE_back {l : List Rl} (h : (listE l).2 = 0) : parseQ (listE l).1 = some l := by
 unfold listE at h ⊢
 split at h
 ·
  cases h
 ·
  rename_i h64
  split at h
  ·
   rename_i ha
   rw [if_neg h64, if_pos ha]
   exact parseQ_text ⟨by omega, fun x hx => List.all_eq_true.1 ha x hx⟩
  ·
   cases h
theorem name_plain {p : Bs} (h : nameB p = true) : (32 : UInt8) ∉ p ∧ p ≠ [] := by
 unfold nameB at h
 simp only [Bool.and_eq_true, decide_eq_true_eq] at h
 refine ⟨fun g => ?_, fun e => ?_⟩
 ·
  have := List.all_eq_true.1 h.2 _ g
  exact absurd this (by decide +kernel)
 ·
  have := h.1.1.1
  rw [e] at this
  simp at this
theorem keyed_all {α : Type} {rt : α → Bool} {key : α → Bs} {l : List α} (h : kchkK rt key l = 0) : ∀ x ∈ l, rt x = true := fun x hx => by
 rcases kchkK_ways rt key l with g | g
 ·
  obtain ⟨i, hi, rfl⟩ := List.mem_iff_getElem.1 hx
  exact (g.2.2 i _ (List.getElem?_eq_getElem hi)).1
 ·
  rw [h] at g
  rcases g.1 with g | g <;> cases g
theorem rec_back {x y : Uv} (hr : rightU x = true) (h : RecOf (fieldsU x) y) : AlikeU y x := by
 have hconf := rightU_confs hr
 unfold rightU at hr
 simp only [Bool.and_eq_true, decide_eq_true_eq] at hr
 obtain ⟨⟨⟨⟨-, -⟩, hst⟩, hda, hdl⟩, hrl⟩ := hr
 unfold rlB at hrl
 simp only [Bool.and_eq_true, beq_iff_eq, decide_eq_true_eq] at hrl
 obtain ⟨⟨⟨⟨-, h5⟩, h6⟩, h7⟩, h8⟩ := hrl
 have hg := fun c hc => confB_plain (hconf c hc)
 unfold fieldsU at h
 refine ⟨?_, ?_, ?_, ?_, ?_, ?_, ?_, ?_, ?_⟩
 ·
  rw [h.nm, fT_nm]
 ·
  rw [h.vr, fT_vr]
 ·
  rw [h.st, fT_st]; exact stateU_word hst
 ·
  rw [h.dp, fT_dp, allE_back hda]; rfl
 ·
  rw [h.cn, fT_cn, listE_back hdl]; rfl
 ·
  rw [h.rp, fT_rp]; exact words_back (fun p hp => name_plain (List.all_eq_true.1 h5 p hp))
 ·
  rw [h.cf, fT_cf]; exact cfRead_text (fun c hc => ⟨(hg c hc).1, (hg c hc).2.1, (hg c hc).2.2.1⟩)
 ·
  rw [h.pd, fT_pd]; exact words_back (fun p hp => by
   have := keyed_all h7 p hp
   unfold trigB at this
   rw [Bool.or_eq_true] at this
   rcases this with g | g
   ·
    exact name_plain g
   ·
    exact ⟨(right_plain g).2.1, (right_plain g).2.2⟩)
 ·
  rw [h.aw, fT_aw]; exact words_back (fun p hp => name_plain (keyed_all h8 p hp))
end
end Go.Proofs.YtkbkaeefdhkgdaaGreatDoor
