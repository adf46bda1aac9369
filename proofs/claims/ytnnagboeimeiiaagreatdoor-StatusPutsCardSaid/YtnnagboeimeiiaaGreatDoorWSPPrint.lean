import Derived.Test.YtnnagboeimeiiaaGreatDoorWSPGet
import Derived.Laws.StructEq
import Derived.Laws.OwnMore
import Derived.Test.YtnnagboeimeiiaaGreatDoorWSPWrite
import Derived.Deep.DeepCutAuto
import Derived.Deep.CutRange
namespace Go.Proofs.YtnnagboeimeiiaaGreatDoor
open Go.RowKit
def fldV (f : Fld) : Value := .agg #[.string ⟨f.1.toArray⟩, .string ⟨f.2.toArray⟩]
end Go.Proofs.YtnnagboeimeiiaaGreatDoor
namespace Go.Proofs.YtnnagboeimeiiaaGreatDoor
open Go.RowKit
end Go.Proofs.YtnnagboeimeiiaaGreatDoor
namespace Go.Proofs.YtnnagboeimeiiaaGreatDoor
open Go.RowKit
theorem infoF : (Tryz.prog.info? 97).map (fun i => (i.zero, i.size, i.bytes)) = some (some (.agg #[.string ⟨#[]⟩, .string ⟨#[]⟩]), 2, 32) := by kernel_rfl
theorem infoSF : (Tryz.prog.info? 57).map (fun i => (i.zero, i.size, i.bytes)) = some (some (.slice none 0 0), 1, 24) := by kernel_rfl
abbrev fcells (st : List Fld) : List Value := st.flatMap fun f => [.string ⟨f.1.toArray⟩, .string ⟨f.2.toArray⟩]
theorem fcells_at : ∀ (st : List Fld) (t : Nat) (f : Fld), st[t]? = some f → (fcells st)[t * 2]? = some (.string ⟨f.1.toArray⟩) ∧ (fcells st)[t * 2 + 1]? = some (.string ⟨f.2.toArray⟩)
 | [], t, f, h => by simp at h
 | g :: st, 0, f, h => by simp at h; subst h; simp [fcells]
 | g :: st, t + 1, f, h => by
   have := fcells_at st t f (by simpa using h)
   have e : (t + 1) * 2 = t * 2 + 1 + 1 := by omega
   have e2 : (t + 1) * 2 + 1 = t * 2 + 1 + 1 + 1 := by omega
   simp only [fcells, List.flatMap_cons, List.cons_append, List.nil_append]
   rw [e2, e, List.getElem?_cons_succ, List.getElem?_cons_succ, List.getElem?_cons_succ, List.getElem?_cons_succ]
   exact this
theorem fcells_set : ∀ (st : List Fld) (f : Fld) (y : Bs), (fcells (st ++ [f])).set (st.length * 2 + 1) (.string ⟨y.toArray⟩) = fcells (st ++ [(f.1, y)])
 | [], f, y => by simp [fcells]
 | g :: st, f, y => by
   have := fcells_set st f y
   have e : (g :: st).length * 2 + 1 = (st.length * 2 + 1) + 1 + 1 := by simp; omega
   rw [e]
   simp only [fcells, List.cons_append, List.flatMap_cons, List.nil_append, List.set_cons_succ] at this ⊢
   rw [this]
def OwnF (w : World) (base : Nat) (v : Value) (st : List Fld) : Prop := w.ownsRow base 97 2 v st.length (fcells st)
theorem OwnF.nil (w : World) (base : Nat) : OwnF w base (.slice none 0 0) [] := World.ownsRow_nil _ _ _ _
theorem OwnF.holds {w : World} {base : Nat} {v : Value} {st : List Fld} (h : OwnF w base v st) : HoldR 2 w v (st.map rowF) := by
 rcases h.2 with ⟨rfl, h0⟩ | ⟨g, cap, cur, rfl, hb, hg, hn, hm, hs, ht⟩
 · have : st = [] := List.eq_nil_of_length_eq_zero h0
   subst this
   exact ⟨none, 0, 0, 0, rfl, Nat.le_refl _, fun h => absurd h (by simp), fun j l hj => by simp at hj⟩
 · refine ⟨some ⟨g, 0, none⟩, cap, g, 0, by rw [List.length_map], by rw [List.length_map]; exact hn, fun _ => ⟨rfl, (Array.getElem?_eq_some_iff.1 hg).1⟩, fun j r hj i x hi hx => ?_⟩
   rw [List.getElem?_map] at hj
   cases hf : st[j]? with
   | none => rw [hf] at hj; cases hj
   | some f =>
     rw [hf] at hj
     simp only [Option.map_some, Option.some.injEq] at hj
     subst hj
     have hj' := (List.getElem?_eq_some_iff.1 hf).1
     obtain ⟨e0, e1⟩ := fcells_at st j f hf
     have hc : ∀ q, q < st.length * 2 → w.cell? ⟨g, q, none⟩ = (fcells st)[q]? := fun q hq => by
       rw [cellRow w g q cur 97 (0, 0) hg, ← ht, List.getElem?_take, if_pos hq, Array.getElem?_toList]
     match i, hi with
     | 0, _ =>
       simp [rowF] at hx; subst hx
       rw [show 0 + j * 2 + 0 = j * 2 by omega, hc _ (by omega), e0]
     | 1, _ =>
       simp [rowF] at hx; subst hx
       rw [show 0 + j * 2 + 1 = j * 2 + 1 by omega, hc _ (by omega), e1]
theorem OwnF.app {w' : World} {base : Nat} {v' : Value} {st : List Fld} {f : Fld} {x y : ByteArray} (hx : x.data.toList = f.1) (hy : y.data.toList = f.2) (h : w'.ownsRow base 97 2 v' (st.length + 1) (fcells st ++ [.string x, .string y])) : OwnF w' base v' (st ++ [f]) := by
 have e : fcells (st ++ [f]) = fcells st ++ [.string x, .string y] := by simp [fcells, strOf hx, strOf hy]
 unfold OwnF
 rw [e, List.length_append]
 exact h
theorem OwnF.mono {w : World} {base base' : Nat} {v : Value} {st : List Fld} (h : OwnF w base v st) (hb : base' ≤ base) : OwnF w base' v st := by
 refine ⟨h.1, ?_⟩
 rcases h.2 with hn | ⟨g, cap, cur, hv, hb', rest⟩
 · exact .inl hn
 · exact .inr ⟨g, cap, cur, hv, by omega, rest⟩
theorem skinds_apart {w : World} {b1 b2 s1 s2 n1 n2 : Nat} {v1 v2 : Value} {x1 x2 : List Value} {e1 e2 : TypeId} (h1 : w.ownsRow b1 e1 s1 v1 n1 x1) (h2 : w.ownsRow b2 e2 s2 v2 n2 x2) (he : e1 ≠ e2) : v1.ownBlock = none ∨ v1.ownBlock ≠ v2.ownBlock := by
 rcases h1.2 with ⟨rfl, _⟩ | ⟨g, cap, cur, rfl, hb, hg, _⟩
 · exact .inl rfl
 · refine .inr fun e => ?_
   rcases h2.2 with ⟨rfl, _⟩ | ⟨g', cap', cur', rfl, hb', hg', _⟩
   · simp [Value.ownBlock] at e
   · simp only [Value.ownBlock, Option.some.injEq] at e
     subst e
     rw [hg] at hg'
     simp only [Option.some.injEq, Obj.cells.injEq] at hg'
     exact he hg'.2.1
def Built (w : World) (base B : Nat) (vo va : Value) (out : List (List Fld)) (at' : List Fld) : Prop :=
 ∃ us : List Value, w.ownsRow base 57 1 vo out.length us ∧ OwnF w B va at' ∧ base ≤ B ∧ B ≤ w.heap.size ∧
   ∀ (j : Nat) u st, us[j]? = some u → out[j]? = some st → OwnF w base u st ∧ ∀ g, u.ownBlock = some g → g < B
theorem Built.start (w : World) (base : Nat) (h : base ≤ w.heap.size) : Built w base base (.slice none 0 0) (.slice none 0 0) [] [] :=
 ⟨[], World.ownsRow_nil _ _ _ _, OwnF.nil _ _, Nat.le_refl _, h, fun j u st hj _ => by simp at hj⟩
theorem Built.kept {w w' : World} {base B : Nat} {vo va : Value} {out : List (List Fld)} {at' : List Fld} (h : Built w base B vo va out at') (hg : w.grownBy w' none) : Built w' base B vo va out at' := by
 obtain ⟨us, h1, h2, h3, h4, h5⟩ := h
 have nn : ∀ o : Option Nat, o = none ∨ o ≠ none := fun o => by cases o <;> simp
 exact ⟨us, h1.kept hg (nn _), World.ownsRow.kept h2 hg (nn _), h3, Nat.le_trans h4 hg.size, fun j u st hj hs => ⟨World.ownsRow.kept (h5 j u st hj hs).1 hg (nn _), (h5 j u st hj hs).2⟩⟩
theorem grown_below {w w' : World} (h : Below w.heap.size w w') : w.grownBy w' none := ⟨h.os, h.tape, h.output, h.size, fun k hk _ => h.block k hk⟩
theorem Built.on {w w' : World} {base B : Nat} {vo va : Value} {out : List (List Fld)} {at' : List Fld} (h : Built w base B vo va out at') (hb : Below w.heap.size w w') : Built w' base B vo va out at' := h.kept (grown_below hb)
theorem Built.rows {w : World} {base B : Nat} {vo va : Value} {out : List (List Fld)} {at' : List Fld} (h : Built w base B vo va out at') : HoldRR 2 w vo (out.map (·.map rowF)) := by
 obtain ⟨us, h1, h2, h3, h4, h5⟩ := h
 have hl := h1.1
 rcases h1.2 with ⟨rfl, h0⟩ | ⟨g, cap, cur, rfl, hb, hg, hn, hm, hs, ht⟩
 · have : out = [] := List.eq_nil_of_length_eq_zero h0
   subst this
   exact ⟨none, 0, 0, 0, rfl, Nat.le_refl _, fun h => absurd h (by simp), fun j l hj => by simp at hj⟩
 · refine ⟨some ⟨g, 0, none⟩, cap, g, 0, by rw [List.length_map], by rw [List.length_map]; exact hn, fun _ => ⟨rfl, (Array.getElem?_eq_some_iff.1 hg).1⟩, fun j rs hj => ?_⟩
   rw [List.getElem?_map] at hj
   cases hf : out[j]? with
   | none => rw [hf] at hj; cases hj
   | some st =>
     rw [hf] at hj
     simp only [Option.map_some, Option.some.injEq] at hj
     subst hj
     have hj' := (List.getElem?_eq_some_iff.1 hf).1
     obtain ⟨u, hu⟩ : ∃ u, us[j]? = some u := ⟨_, List.getElem?_eq_getElem (by omega)⟩
     refine ⟨u, ?_, (h5 j u st hu hf).1.holds⟩
     rw [Nat.zero_add, cellRow w g j cur 57 (0, 0) hg, ← hu, ← ht, List.getElem?_take, if_pos (by omega), Array.getElem?_toList]
theorem Built.cut {w w1 : World} {o : Obj} {base B : Nat} {vo vo' va : Value} {out : List (List Fld)} {at' : List Fld} {us : List Value} (h1 : w.ownsRow base 57 1 vo out.length us) (h2 : OwnF w B va at') (h3 : base ≤ B)
   (h5 : ∀ (j : Nat) u st, us[j]? = some u → out[j]? = some st → OwnF w base u st ∧ ∀ g, u.ownBlock = some g → g < B)
   (hown : w1.ownsRow base 57 1 vo' (out.length + 1) (us ++ [va])) (hg : (w.alloc o).grownBy w1 vo.ownBlock) (hb : base ≤ w1.heap.size) : Built w1 base w1.heap.size vo' (.slice none 0 0) (out ++ [at']) [] := by
 have hl := h1.1
 have hk : ∀ {B' : Nat} {u : Value} {st : List Fld}, OwnF w B' u st → OwnF w1 B' u st := fun hu => World.ownsRow.kept (World.ownsRow.alloc hu o) hg (skinds_apart hu h1 (by decide))
 refine ⟨us ++ [va], by rw [List.length_append]; exact hown, OwnF.nil _ _, hb, Nat.le_refl _, fun j u st hj hs => ?_⟩
 by_cases hjl : j < out.length
 · rw [List.getElem?_append_left (by omega)] at hj
   rw [List.getElem?_append_left hjl] at hs
   have hu := hk (h5 j u st hj hs).1
   exact ⟨hu, fun g hg' => (World.ownsRow.lt hu g hg').2⟩
 · rw [List.getElem?_append_right (by omega)] at hj
   rw [List.getElem?_append_right (by omega)] at hs
   have e : j - out.length = 0 := by
     have := (List.getElem?_eq_some_iff.1 hs).1; simp at this; omega
   rw [e] at hs
   rw [show j - us.length = 0 by omega] at hj
   simp at hj hs
   subst hj hs
   have hu := hk h2
   exact ⟨hu.mono h3, fun g hg' => (World.ownsRow.lt hu g hg').2⟩
theorem Built.add {w w1 : World} {o : Obj} {base B : Nat} {vo va va' : Value} {out : List (List Fld)} {at' : List Fld} {us : List Value} {f : Fld} (h1 : w.ownsRow base 57 1 vo out.length us) (h2 : OwnF w B va at') (h3 : base ≤ B) (h4 : B ≤ w.heap.size)
   (h5 : ∀ (j : Nat) u st, us[j]? = some u → out[j]? = some st → OwnF w base u st ∧ ∀ g, u.ownBlock = some g → g < B)
   {x y : ByteArray} (hx : x.data.toList = f.1) (hy : y.data.toList = f.2) (hown : w1.ownsRow B 97 2 va' (at'.length + 1) (fcells at' ++ [.string x, .string y])) (hg : (w.alloc o).grownBy w1 va.ownBlock) : Built w1 base B vo va' out (at' ++ [f]) := by
 have hsz := hg.size
 simp only [World.size_alloc] at hsz
 refine ⟨us, World.ownsRow.kept (World.ownsRow.alloc h1 o) hg (skinds_apart h1 h2 (by decide)), OwnF.app hx hy hown, h3, by omega, fun j u st hj hs => ?_⟩
 obtain ⟨a1, a2⟩ := h5 j u st hj hs
 refine ⟨World.ownsRow.kept (World.ownsRow.alloc a1 o) hg ?_, a2⟩
 cases e : u.ownBlock with
 | none => exact .inl rfl
 | some g =>
   refine .inr fun e2 => ?_
   have := (World.ownsRow.lt h2 g e2.symm).1
   have := a2 g e
   omega
theorem Built.set {w : World} {base B g c : Nat} {vo : Value} {out : List (List Fld)} {st : List Fld} {f : Fld} (h : Built w base B vo (.slice (some ⟨g, 0, none⟩) (st.length + 1) c) out (st ++ [f])) {x : ByteArray} {y : Bs} (hx : x.data.toList = y) :
   Built (w.setCell ⟨g, st.length * 2 + 1, none⟩ (.string x)) base B vo (.slice (some ⟨g, 0, none⟩) (st.length + 1) c) out (st ++ [(f.1, y)]) ∧ B ≤ g := by
 obtain ⟨us, h1, h2, h3, h4, h5⟩ := h
 have h2' : w.ownsRow B 97 2 (.slice (some ⟨g, 0, none⟩) (st.length + 1) c) (st.length + 1) (fcells (st ++ [f])) := by
   unfold OwnF at h2; rw [List.length_append] at h2; exact h2
 obtain ⟨k1, hg⟩ := h2'.stored (st.length * 2 + 1) (.string x)
 rw [strOf hx, fcells_set, ← strOf hx] at k1
 have hlt := World.ownsRow.lt h2 g rfl
 refine ⟨⟨us, h1.kept hg (skinds_apart h1 h2 (by decide)), by unfold OwnF; rw [List.length_append]; exact k1, h3, by have := hg.size; omega, fun j u s hj hs => ?_⟩, hlt.1⟩
 obtain ⟨a1, a2⟩ := h5 j u s hj hs
 refine ⟨World.ownsRow.kept a1 hg ?_, a2⟩
 cases e : u.ownBlock with
 | none => exact .inl rfl
 | some k =>
   refine .inr fun e2 => ?_
   simp only [Option.some.injEq] at e2
   have := a2 k e
   omega
theorem OwnF.shape {w : World} {base : Nat} {v : Value} {st : List Fld} (h : OwnF w base v st) : ∃ (a : Option Addr) (c : Nat), v = .slice a st.length c ∧ (0 < st.length → ∃ g, a = some ⟨g, 0, none⟩) := by
 rcases h.2 with ⟨rfl, h0⟩ | ⟨g, cap, cur, rfl, _⟩
 · exact ⟨none, 0, by rw [h0], fun h => by omega⟩
 · exact ⟨some ⟨g, 0, none⟩, cap, rfl, fun _ => ⟨g, rfl⟩⟩
theorem OwnF.last {w : World} {base g c n : Nat} {st : List Fld} {f : Fld} (h : OwnF w base (.slice (some ⟨g, 0, none⟩) n c) (st ++ [f])) {y : ByteArray} (hy : y.data.toList = f.2) : w.cell? ⟨g, st.length * 2 + 1, none⟩ = some (.string y) ∧ w.frozen? ⟨g, st.length * 2 + 1, none⟩ = false := by
 have hn : n = st.length + 1 := by
   obtain ⟨a, c', e, _⟩ := h.shape
   simp only [Value.slice.injEq] at e
   rw [e.2.1, List.length_append]; rfl
 subst hn
 have h2 : w.ownsRow base 97 2 (.slice (some ⟨g, 0, none⟩) (st.length + 1) c) (st.length + 1) (fcells (st ++ [f])) := by
   unfold OwnF at h; rw [List.length_append] at h; exact h
 refine ⟨?_, h2.frozenAt _⟩
 rw [h2.cellAt _ (by omega), (fcells_at (st ++ [f]) st.length f (by simp)).2, strOf hy]
theorem below_row {B0 : Nat} {w0 w w1 : World} {o : Obj} {base e sz n : Nat} {v : Value} {xs : List Value} (h : Below B0 w0 w) (hr : w.ownsRow base e sz v n xs) (hg : (w.alloc o).grownBy w1 v.ownBlock) (hB : B0 ≤ base) (hbw : B0 ≤ w.heap.size) : Below B0 w0 w1 :=
 (h.alloc hbw o).grown hg (by simp; omega) (fun k hk => by have := (hr.lt k hk).1; omega)
end Go.Proofs.YtnnagboeimeiiaaGreatDoor
namespace Go.Proofs.YtnnagboeimeiiaaGreatDoor
open Go.RowKit
abbrev lenS (l : List Bs) : Nat := (l.map fun p => p.length + 1).sum
theorem glue_lenS (u : Bs) (l : List Bs) (h : l ≠ []) : lenS (glue u l) = u.length + lenS l := by
 cases l with
 | nil => exact absurd rfl h
 | cons p l => simp [glue, lenS]; omega
theorem spl_sum (c : UInt8) (s : Bs) : lenS (spl c s) = s.length + 1 := by
 induction s with
 | nil => simp [spl, lenS]
 | cons x s ih =>
   rw [spl_cons]; split
   · simp only [lenS, List.map_cons, List.sum_cons, List.length_nil, List.length_cons] at ih ⊢; omega
   · rw [glue_lenS _ _ (spl_ne _ _), ih]; simp; omega
theorem drop_sum (l : List Bs) : lenS l.dropLast ≤ lenS l := by
 rcases List.eq_nil_or_concat l with rfl | ⟨a, b, rfl⟩
 · simp
 · simp [lenS]
abbrev wF (f : Fld) : Nat := f.1.length + 3 * f.2.length + 3
abbrev wFs (st : List Fld) : Nat := (st.map wF).sum
abbrev wS (l : List (List Fld)) : Nat := (l.map fun st => wFs st + 1).sum
theorem tail_sum (ps : List Bs) : (ps.flatMap tailLine).length = lenS ps + ps.length := by
 induction ps with
 | nil => rfl
 | cons p ps ih => simp only [List.flatMap_cons, List.length_append, ih, tailLine, lenS, List.map_cons, List.sum_cons, List.length_cons, List.length_nil]; omega
theorem printT_len (ls : List Bs) : (printT ls).length ≤ lenS ls + ls.length := by
 cases ls with
 | nil => simp [printT]
 | cons p ps =>
   unfold printT headLine
   rw [List.length_append, tail_sum]
   have : (if p ≠ [] then 32 :: p else p).length ≤ p.length + 1 := by split <;> simp
   simp only [List.length_append, List.length_cons, List.length_nil, lenS, List.map_cons, List.sum_cons] at *
   omega
theorem printF_len (f : Fld) : (printF f).length ≤ wF f := by
 have h1 := printT_len (spl 10 f.2)
 have h2 := spl_sum 10 f.2
 have h3 := spl_len 10 f.2
 unfold printF
 simp only [List.length_append, List.length_cons]
 unfold wF; omega
theorem printS_len (st : List Fld) : (printS st).length ≤ wFs st := by
 unfold printS
 induction st with
 | nil => simp
 | cons f st ih =>
   have := printF_len f
   simp only [List.flatMap_cons, List.length_append, wFs, List.map_cons, List.sum_cons] at *
   omega
theorem printSs_len (l : List (List Fld)) : (printSs l).length ≤ wS l := by
 induction l with
 | nil => simp [printSs]
 | cons st l ih =>
   rw [printSs_cons]
   have := printS_len st
   split
   · simp only [List.append_nil, wS, List.map_cons, List.sum_cons]; omega
   · simp only [List.length_append, List.length_cons, wS, List.map_cons, List.sum_cons] at *; omega
theorem sum_mem {α : Type} (g : α → Nat) : ∀ (l : List α) (x : α), x ∈ l → g x ≤ (l.map g).sum
 | [], x, h => by cases h
 | y :: l, x, h => by
   simp only [List.map_cons, List.sum_cons]
   rcases List.mem_cons.1 h with rfl | h
   · omega
   · have := sum_mem g l x h; omega
theorem sum_len {α : Type} (g : α → Nat) (l : List α) (hg : ∀ x ∈ l, 1 ≤ g x) : l.length ≤ (l.map g).sum := by
 induction l with
 | nil => simp
 | cons x l ih =>
   have := hg x (by simp)
   have := ih (fun y hy => hg y (List.mem_cons_of_mem _ hy))
   simp only [List.map_cons, List.sum_cons, List.length_cons]; omega
structure Small (l : List (List Fld)) (B : Nat) : Prop where
 n : l.length ≤ B
 ns : ∀ st ∈ l, st.length ≤ B
 fs : ∀ st ∈ l, ∀ f ∈ st, f.1.length ≤ B ∧ f.2.length ≤ B
 pr : (printSs l).length ≤ B
theorem small_of {l : List (List Fld)} {B : Nat} (h : wS l ≤ B) : Small l B where
 n := Nat.le_trans (sum_len _ l (fun x _ => by omega)) h
 ns := fun st hst => by
   have h1 : wFs st + 1 ≤ wS l := sum_mem (fun st => wFs st + 1) l st hst
   have h2 : st.length ≤ wFs st := sum_len wF st (fun x _ => by unfold wF; omega)
   omega
 fs := fun st hst f hf => by
   have h1 : wFs st + 1 ≤ wS l := sum_mem (fun st => wFs st + 1) l st hst
   have h2 : wF f ≤ wFs st := sum_mem wF st f hf
   unfold wF at h2
   omega
 pr := Nat.le_trans (printSs_len l) h
end Go.Proofs.YtnnagboeimeiiaaGreatDoor
namespace Go.Proofs.YtnnagboeimeiiaaGreatDoor
open Go.RowKit
theorem printE_ways (l : List (List Fld)) : (∃ z, (z = 22 ∨ z = 1) ∧ printE l = ([], z)) ∨ printE l = (printSs l, 0) := by
 unfold printE
 split
 · exact .inl ⟨22, .inl rfl, rfl⟩
 · split
   · exact .inr rfl
   · exact .inl ⟨1, .inr rfl, rfl⟩
theorem bld_new (B : Nat) (w : World) (h : B ≤ w.heap.size) : Bld B w.heap.size [] (w.alloc (.cells #[.pointer none, .slice none 0 0] tB)) :=
 .inl ⟨h, .slice none 0 0, heap_alloc_new w _, World.ownsRowF_nil _ _ _ _, by simp [Value.ownBlock]⟩
theorem bstr_any (B b : Nat) (l : Bs) (w : World) (h : Bld B b l w) (hB : B ≤ w.heap.size) : Calls Tryz.prog 75 #[.pointer (some ⟨b, 0, none⟩)] w fun e w' => e = .returned (.string ⟨l.toArray⟩) ∧ Below B w w' :=
 (Tryz.Builder_String_any_k B b l w h hB).mono fun _ _ hp => ⟨hp.1, hp.2.2.1⟩
set_option maxRecDepth 100000 in
set_option maxHeartbeats 16000000 in
theorem print_any (v : Value) (l : List (List Fld)) (hsm : Small l 90000) (w : World) (h : HoldRR 2 w v (l.map (·.map rowF))) : Calls Tryz.prog 29 #[v] w (PrintPost l w) := by
 have CK := check_any v l hsm.n hsm.ns (fun st hst f hf => by have := hsm.fs st hst f hf; omega) w h
 unfold CheckPost at CK
 rcases printE_ways l with ⟨z, hz, he⟩ | he
 · have HP : Hid (∀ w', Below w.heap.size w w' → PrintPost l w (.returned (.tuple #[.string ⟨#[]⟩, .int .i64 z])) w') := Lib.hid (fun w' hb => ⟨by rw [he], hb⟩)
   rw [he] at CK
   clear he hsm
   obtain ⟨a, c, b, o, rfl, hc, ha, hcell⟩ := h
   rw [List.length_map] at CK ha hc ⊢
   clear hcell ha
   generalize l.length = n at *
   rcases hz with rfl | rfl
   all_goals
     go_enter Tryz.func29, Tryz.ntmps29
     go_wp2_with (go_at_call 72; refine CK.mono ?_; rintro e w1 ⟨rfl, hb⟩; have HB := Lib.hid hb; clear hb)
     go_ret2
     exact HP.out _ HB.out
 · have HP : Hid (∀ (S : ByteArray) w', S.data.toList = printSs l → Below w.heap.size w w' → PrintPost l w (.returned (.tuple #[.string S, .int .i64 0])) w') := Lib.hid (fun S w' hS hb => ⟨by rw [he, ← strOf hS], hb⟩)
   rw [he] at CK
   have HS := Lib.hid hsm
   have hpr := hsm.pr
   obtain ⟨a, c, b, o, rfl, hc, ha, hcell⟩ := h
   rw [List.length_map] at CK ha hc ⊢
   have HC := Lib.hid (fun (i : Nat) (st : List Fld) (hi : l[i]? = some st) => hcell i (st.map rowF) (by simp [hi]))
   obtain ⟨n, hN⟩ : ∃ n, l.length = n := ⟨_, rfl⟩
   have hn2 := hsm.n
   rw [hN] at CK ha hc hn2 ⊢
   have HN := Lib.hid hN
   clear he hsm hcell hN
   go_enter Tryz.func29, Tryz.ntmps29
   go_wp2_with (go_at_call 72; refine CK.mono ?_; rintro e w1 ⟨rfl, hb⟩; have HB1 := Lib.hid hb; have hs1 := hb.size; clear hb)
   clear CK
   have hBW : w.heap.size ≤ w1.heap.size := hs1
   have HB2 : Hid (Below w.heap.size w (w1.alloc (.cells #[.pointer none, .slice none 0 0] tB))) := Lib.hid (HB1.out.alloc hs1 _)
   have HD0 := Lib.hid (bld_new w.heap.size w1 hs1)
   obtain ⟨bb, hbb⟩ : ∃ bb, bb = w1.heap.size := ⟨_, rfl⟩
   rw [← hbb] at HD0 ⊢
   have HEB := Lib.hid hbb
   clear hbb
   go_loopw [17] (fun i wr => ∃ (k : Nat) (out : Bs), k ≤ n ∧ i = .int .i64 k ∧ Hid (out ++ leftSs l k = printSs l) ∧ Hid (Bld w.heap.size bb out wr) ∧ bb < wr.heap.size ∧ Hid (Below w.heap.size w wr)) (fun i _ => n - (intOf i).toNat)
   case atStart => exact ⟨0, [], by omega, rfl, Lib.hid (by unfold leftSs; rw [if_pos rfl]; rfl), HD0, by rw [HEB.out]; simp, HB2⟩
   case round =>
     obtain ⟨k, out, hk, rfl, HO, HD, hbw2, HB⟩ := hrel
     have hsz := HB.out.size
     have hol := len_of HO.out
     by_cases hlt : k < n
     · obtain ⟨rfl, hbw⟩ := ha (by omega)
       have hkl : k < l.length := by rw [HN.out]; exact hlt
       obtain ⟨st, hst⟩ : ∃ st, st = l[k] := ⟨_, rfl⟩
       have hst' : l[k]? = some st := by rw [hst]; exact List.getElem?_eq_getElem hkl
       obtain ⟨u, hu0, hr⟩ := HC.out k st hst'
       have hu := (HB.out.cell (p := ⟨b, o + k, none⟩) hbw).trans hu0
       have hr' := hr
       obtain ⟨ai, ci, bi, oi, rfl, hci, hai, hcelli⟩ := hr
       rw [List.length_map] at hu hci hai hr'
       have hm1 := HS.out.ns _ (List.mem_of_getElem? hst')
       have hfs := HS.out.fs _ (List.mem_of_getElem? hst')
       obtain ⟨m, hm⟩ : ∃ m, st.length = m := ⟨_, rfl⟩
       rw [hm] at hu hm1 hci hai hr'
       have HM := Lib.hid hm
       have HFS := Lib.hid hfs
       have HR := Lib.hid hr'
       have HL0 : k = 0 → Hid (out ++ (printS st ++ tailSs l (k + 1)) = printSs l) := fun h0 => Lib.hid (by
         rw [← HO.out, hst]; subst h0; rw [left_first hkl])
       have HL1 : ¬ k = 0 → Hid (out ++ (ByteArray.mk #[10]).data.toList ++ (printS st ++ tailSs l (k + 1)) = printSs l) := fun h0 => Lib.hid (by
         rw [← HO.out, hst, left_next h0 hkl]; simp)
       clear hu0 hcelli hfs hst hst' hr' hm HO
       go_upto_if 23 with fail
       go_cut [] (fun wx => ∃ out', Hid (out' ++ (printS st ++ tailSs l (k + 1)) = printSs l) ∧ Hid (Bld w.heap.size bb out' wx) ∧ bb < wx.heap.size ∧ Hid (Below w.heap.size w wx))
       case first =>
         by_cases h0 : k = 0
         · have HL := HL0 h0
           subst h0
           clear HL0 HL1
           go_wp2
           go_meet
           case rel => exact ⟨out, HL, HD, hbw2, HB⟩
         · have HL := HL1 h0
           have hk0 : (0 : Int) < (k : Int) := by omega
           have WS := wstr_any w.heap.size bb out ⟨#[10]⟩ wr HD.out (by omega) (by decide) hsz
           clear HL0 HL1 h0
           go_wp2_with (go_at_call 73; refine WS.mono ?_; rintro e w3 ⟨v3, rfl, hd3, hb3, ho3⟩; have HD3 := Lib.hid hd3; have HB3 := Lib.hid (HB.out.trans hb3); have hz3 := hb3.size; clear hd3 hb3 ho3)
           go_meet
           case rel => exact ⟨_, HL, HD3, by omega, HB3⟩
       case rest =>
         obtain ⟨out2, HL, HD2, hbw3, HBX⟩ := hcut
         clear HL0 HL1 HD HB hu
         go_wp2
         go_loopw [27] (fun i wx => ∃ (t : Nat) (out : Bs), t ≤ m ∧ i = .int .i64 t ∧ Hid (out ++ (printS (st.drop t) ++ tailSs l (k + 1)) = printSs l) ∧ Hid (Bld w.heap.size bb out wx) ∧ bb < wx.heap.size ∧ Hid (Below w.heap.size w wx)) (fun i _ => m - (intOf i).toNat)
         case atStart => exact ⟨0, out2, by omega, rfl, HL, HD2, hbw3, HBX⟩
         case round =>
           obtain ⟨t, out3, ht, rfl, HI, HD3, hbw4, HB4⟩ := hrel
           have hsz4 := HB4.out.size
           have hol3 := len_of HI.out
           by_cases htm : t < m
           · obtain ⟨rfl, hbi⟩ := hai (by omega)
             have htl : t < st.length := by rw [HM.out]; exact htm
             obtain ⟨f, hf⟩ : ∃ f, f = st[t] := ⟨_, rfl⟩
             have hf' : st[t]? = some f := by rw [hf]; exact List.getElem?_eq_getElem htl
             have hfz := HFS.out f (List.mem_of_getElem? hf')
             obtain ⟨X, hX⟩ : ∃ X : ByteArray, X.data.toList = f.1 := ⟨⟨f.1.toArray⟩, by simp⟩
             obtain ⟨Y, hY⟩ : ∃ Y : ByteArray, Y.data.toList = f.2 := ⟨⟨f.2.toArray⟩, by simp⟩
             obtain ⟨d0, d1⟩ := rowF_cells (HR.out.on HB4.out) hf' hX hY
             have hXs : X.size ≤ 90000 := by rw [sizeOf, hX]; omega
             have hYs : Y.size ≤ 90000 := by rw [sizeOf, hY]; omega
             have W := write_any w.heap.size bb out3 X Y hXs hYs (by omega) (wr.alloc (.cells #[.string X, .string Y] 97)) (HD3.out.alloc _) (by simp; omega) (by simp; omega)
             unfold WrPost at W
             have HA4 : Hid (Below w.heap.size w (wr.alloc (.cells #[.string X, .string Y] 97))) := Lib.hid (HB4.out.alloc hsz4 _)
             have HN3 : Hid (out3 ++ printF (X.data.toList, Y.data.toList) ++ (printS (st.drop (t + 1)) ++ tailSs l (k + 1)) = printSs l) := Lib.hid (by
               rw [← HI.out, printS_drop htl, ← hf, hX, hY]
               unfold printF
               simp only [List.append_assoc, List.cons_append])
             clear hf hf' hfz hX hY HI
             go_wp2_with (go_at_call 74; refine W.mono ?_; rintro e w5 ⟨⟨v5, rfl⟩, hd5, hb5⟩; have HD5 := Lib.hid hd5; have HB5 := Lib.hid (HA4.out.trans hb5); have hz5 := hb5.size; clear hd5 hb5)
             go_roundw
             case rel => exact ⟨t + 1, _, by omega, by go_num, HN3, HD5, by simp at hz5; omega, HB5⟩
             case measure => simp [intOf]; omega
           · obtain rfl : t = m := by omega
             have HO2 : Hid (out3 ++ leftSs l (k + 1) = printSs l) := Lib.hid (by
               have := HI.out
               rw [← HM.out, printS_end, List.nil_append, left_tail] at this; exact this)
             clear HI htm
             go_wp2
             go_roundw
             case rel => exact ⟨k + 1, out3, by omega, by go_num, HO2, HD3, hbw4, HB4⟩
             case measure => simp [intOf]; omega
     · obtain rfl : k = n := by omega
       have HE : Hid (out = printSs l) := Lib.hid (by have := HO.out; rw [← HN.out, left_end, List.append_nil] at this; exact this)
       have BS := bstr_any w.heap.size bb out wr HD.out hsz
       clear hlt HO
       go_wp2_with (go_at_call 75; refine BS.mono ?_; rintro e w3 ⟨rfl, hb3⟩; have HB3 := Lib.hid (HB.out.trans hb3); clear hb3)
       go_ret2
       exact HP.out _ _ (by rw [HE.out]) HB3.out
end Go.Proofs.YtnnagboeimeiiaaGreatDoor
