import Derived.Test.YtnnagboeimeiiaaGreatDoorWUAPut
import Derived.Test.YtnnagboeimeiiaaGreatDoorWUKey
namespace Go.Proofs.YtnnagboeimeiiaaGreatDoor
open Go.RowKit
def slcOfU : Value → SlcUa
 | .slice a n c => (a, n, c)
 | _ => (none, 0, 0)
def shU (x : Uv) : OvUa := (x.nm, ⟨x.vr.toArray⟩, x.st, slcOfU x.dv, slcOfU x.cv, slcOfU x.rv, slcOfU x.fv, slcOfU x.pv, slcOfU x.av)
theorem slc_isU {v : Value} (h : ∃ a n c, v = .slice a n c) : Value.slice (slcOfU v).1 (slcOfU v).2.1 (slcOfU v).2.2 = v := by
 obtain ⟨a, n, c, rfl⟩ := h; rfl
theorem cells_shU {w : World} {x : Uv} (h : InU w x) : cellsOUa (shU x) = cellsU x := by
 show [_, _, _, Value.slice (slcOfU x.dv).1 (slcOfU x.dv).2.1 (slcOfU x.dv).2.2, Value.slice (slcOfU x.cv).1 (slcOfU x.cv).2.1 (slcOfU x.cv).2.2, Value.slice (slcOfU x.rv).1 (slcOfU x.rv).2.1 (slcOfU x.rv).2.2, Value.slice (slcOfU x.fv).1 (slcOfU x.fv).2.1 (slcOfU x.fv).2.2, Value.slice (slcOfU x.pv).1 (slcOfU x.pv).2.1 (slcOfU x.pv).2.2, Value.slice (slcOfU x.av).1 (slcOfU x.av).2.1 (slcOfU x.av).2.2] = _
 rw [slc_isU (formU3 h), slc_isU (formU4 h), slc_isU (formU5 h), slc_isU (formU6 h), slc_isU (formU7 h), slc_isU (formU8 h)]; rfl
theorem agg_shU {w : World} {x : Uv} (h : InU w x) : aggOUa (shU x) = agZU x := by
 show Value.agg #[_, _, _, Value.slice (slcOfU x.dv).1 (slcOfU x.dv).2.1 (slcOfU x.dv).2.2, Value.slice (slcOfU x.cv).1 (slcOfU x.cv).2.1 (slcOfU x.cv).2.2, Value.slice (slcOfU x.rv).1 (slcOfU x.rv).2.1 (slcOfU x.rv).2.2, Value.slice (slcOfU x.fv).1 (slcOfU x.fv).2.1 (slcOfU x.fv).2.2, Value.slice (slcOfU x.pv).1 (slcOfU x.pv).2.1 (slcOfU x.pv).2.2, Value.slice (slcOfU x.av).1 (slcOfU x.av).2.1 (slcOfU x.av).2.2] = _
 rw [slc_isU (formU3 h), slc_isU (formU4 h), slc_isU (formU5 h), slc_isU (formU6 h), slc_isU (formU7 h), slc_isU (formU8 h)]; rfl
theorem map_shU {w : World} {l : List Uv} (h : ∀ x ∈ l, InU w x) : (l.map shU).map cellsOUa = l.map cellsU := by
 rw [List.map_map]; exact List.map_congr_left (fun x hx => cells_shU (h x hx))
theorem hold_shU {w : World} {v : Value} {l : List Uv} (h : HoldU w v l) : HoldOUa w v (l.map shU) := by
 unfold HoldOUa; rw [map_shU h.2]; exact h.1
theorem sh_holdU {w : World} {v : Value} {l : List Uv} (h : HoldOUa w v (l.map shU)) (hi : ∀ x ∈ l, InU w x) : HoldU w v l := by
 unfold HoldOUa at h; rw [map_shU hi] at h; exact ⟨h, hi⟩
def nmIsU (p : Bs) (y : Uv) : Bool := decide (y.nm = p)
def nmOverU (p : Bs) (y : Uv) : Bool := decide (p < y.nm)
def cutUU (l : List Uv) (p : Bs) : Nat := match l.findIdx? (nmOverU p) with
 | some k => k
 | none => l.length
def putU (l : List Uv) (x : Uv) : List Uv := match l.findIdx? (nmIsU x.nm) with
 | some k => l.set k x
 | none => l.take (cutUU l x.nm) ++ x :: l.drop (cutUU l x.nm)
def dropU (l : List Uv) (p : Bs) : List Uv := l.filter (fun y => !decide (y.nm = p))
theorem put_shU (l : List Uv) (x : Uv) : putOUa (l.map shU) (shU x) = (putU l x).map shU := by
 have e1 : (l.map shU).findIdx? (pathIsOUa (shU x).1) = l.findIdx? (nmIsU x.nm) := by rw [List.findIdx?_map]; rfl
 have e2 : (l.map shU).findIdx? (overOUa (shU x).1) = l.findIdx? (nmOverU x.nm) := by rw [List.findIdx?_map]; rfl
 have e3 : cutPOUa (l.map shU) (shU x).1 = cutUU l x.nm := by
   unfold cutPOUa cutUU; rw [e2, List.length_map]
   cases l.findIdx? (nmOverU x.nm) <;> rfl
 unfold putOUa putU
 rw [e1, e3]
 cases l.findIdx? (nmIsU x.nm) with
 | some k => simp only; rw [List.map_set]
 | none => simp only; rw [List.map_append, List.map_cons, List.map_take, List.map_drop]
theorem drop_shU (l : List Uv) (p : Bs) : dropOUa (l.map shU) p = (dropU l p).map shU := by
 unfold dropOUa dropU
 rw [List.filter_map]; rfl
theorem putU_mem {l : List Uv} {x y : Uv} (h : y ∈ putU l x) : y ∈ l ∨ y = x := by
 unfold putU at h
 split at h
 · rcases List.mem_or_eq_of_mem_set h with h | h
   · exact .inl h
   · exact .inr h
 · rcases List.mem_append.1 h with h | h
   · exact .inl (List.mem_of_mem_take h)
   · rcases List.mem_cons.1 h with h | h
     · exact .inr h
     · exact .inl (List.mem_of_mem_drop h)
theorem putU_len (l : List Uv) (x : Uv) : (putU l x).length ≤ l.length + 1 := by
 unfold putU
 split
 · rw [List.length_set]; omega
 · simp only [List.length_append, List.length_cons, List.length_take, List.length_drop]; omega
theorem dropU_mem {l : List Uv} {p : Bs} {y : Uv} (h : y ∈ dropU l p) : y ∈ l := (List.mem_filter.1 h).1
theorem dropU_len (l : List Uv) (p : Bs) : (dropU l p).length ≤ l.length := List.length_filter_le _ _
abbrev idxU (l : List Uv) (p : Bs) : Int := idxK l (nmIsU p)
theorem idx_shU (l : List Uv) (p : Bs) : idxOUa (l.map shU) (pathIsOUa p) = idxU l p := by
 unfold idxOUa idxU idxK
 rw [show (l.map shU).findIdx? (pathIsOUa p) = l.findIdx? (nmIsU p) by rw [List.findIdx?_map]; rfl]
 cases l.findIdx? (nmIsU p) <;> rfl
theorem drop_findU (l : List Uv) (p : Bs) : idxU (dropU l p) p = -1 := idxK_miss (fun j y hy => by
 have := (List.mem_filter.1 (List.mem_of_getElem? hy)).2
 unfold nmIsU
 simpa using this)
theorem putU_any (v : Value) (l : List Uv) (hl : l.length ≤ 90000) (x : Uv) (w : World) (h : HoldU w v l) (hx : InU w x) : Calls Tryz.prog 20 #[v, agZU x] w fun e w' => ∃ v', e = .returned v' ∧ HoldU w' v' (putU l x) ∧ Below w.heap.size w w' := by
 have := putO_anyUa v (l.map shU) (by rw [List.length_map]; exact hl) (shU x) w (hold_shU h)
 rw [agg_shU hx] at this
 refine this.mono fun e w' ⟨v', he, ho, hb⟩ => ⟨v', he, ?_, hb⟩
 rw [put_shU] at ho
 exact sh_holdU ho (fun y hy => (putU_mem hy).elim (fun h' => (h.2 y h').on hb) (fun e => by rw [e]; exact hx.on hb))
theorem putU_ref (v : Value) (l : List Uv) (hl : l.length ≤ 90000) (x : Uv) (w : World) (h : HoldU w v l) (hx : InU w x) : Calls Tryz.prog 22 #[v, agZU x] w fun e w' => ∃ v', e = .returned v' ∧ HoldU w' v' (putU l x) ∧ Below w.heap.size w w' := by
 have := putO_refUa v (l.map shU) (by rw [List.length_map]; exact hl) (shU x) w (hold_shU h)
 rw [agg_shU hx] at this
 refine this.mono fun e w' ⟨v', he, ho, hb⟩ => ⟨v', he, ?_, hb⟩
 rw [put_shU] at ho
 exact sh_holdU ho (fun y hy => (putU_mem hy).elim (fun h' => (h.2 y h').on hb) (fun e => by rw [e]; exact hx.on hb))
theorem dropU_any (v : Value) (l : List Uv) (hl : l.length ≤ 90000) (p : ByteArray) (w : World) (h : HoldU w v l) : Calls Tryz.prog 21 #[v, .string p] w fun e w' => ∃ v', e = .returned v' ∧ HoldU w' v' (dropU l p.data.toList) ∧ Below w.heap.size w w' := by
 refine (dropO_anyUa v (l.map shU) (by rw [List.length_map]; exact hl) p w (hold_shU h)).mono fun e w' ⟨v', he, ho, hb⟩ => ⟨v', he, ?_, hb⟩
 have ho := ho.holds
 rw [drop_shU] at ho
 exact sh_holdU ho (fun y hy => (h.2 y (dropU_mem hy)).on hb)
theorem dropU_ref (v : Value) (l : List Uv) (hl : l.length ≤ 90000) (p : ByteArray) (w : World) (h : HoldU w v l) : Calls Tryz.prog 23 #[v, .string p] w fun e w' => ∃ v', e = .returned v' ∧ HoldU w' v' (dropU l p.data.toList) ∧ Below w.heap.size w w' := by
 refine (dropO_refUa v (l.map shU) (by rw [List.length_map]; exact hl) p w (hold_shU h)).mono fun e w' ⟨v', he, ho, hb⟩ => ⟨v', he, ?_, hb⟩
 have ho := ho.holds
 rw [drop_shU] at ho
 exact sh_holdU ho (fun y hy => (h.2 y (dropU_mem hy)).on hb)
theorem findU_any (v : Value) (l : List Uv) (hl : l.length ≤ 90000) (p : ByteArray) (w : World) (h : HoldU w v l) : Calls Tryz.prog 24 #[v, .string p] w fun e w' => e = .returned (.int .i64 (idxU l p.data.toList)) ∧ Below w.heap.size w w' := by
 have := findO_anyUa v (l.map shU) (by rw [List.length_map]; exact hl) p w (hold_shU h)
 rwa [idx_shU] at this
theorem findU_ref (v : Value) (l : List Uv) (hl : l.length ≤ 90000) (p : ByteArray) (w : World) (h : HoldU w v l) : Calls Tryz.prog 25 #[v, .string p] w fun e w' => e = .returned (.int .i64 (idxU l p.data.toList)) ∧ w = w' := by
 have := findO_refUa v (l.map shU) (by rw [List.length_map]; exact hl) p w (hold_shU h)
 rwa [idx_shU] at this
end Go.Proofs.YtnnagboeimeiiaaGreatDoor
namespace Go.Proofs.YtnnagboeimeiiaaGreatDoor
open Go.RowKit
section
variable {α : Type} {rt : α → Bool} {key : α → Bs}
theorem steps_riseU {l : List α} (h : StepsK rt key l) (d : Nat) : ∀ (i : Nat) x y, l[i]? = some x → l[i + d + 1]? = some y → key x < key y := by
 induction d with
 | zero => exact fun i x y hx hy => (h (i + 0 + 1) y hy).2 x (by omega) hx
 | succ d ih =>
   intro i x y hx hy
   have hl := (List.getElem?_eq_some_iff.1 hy).1
   obtain ⟨z, hz⟩ : ∃ z, l[i + d + 1]? = some z := ⟨_, List.getElem?_eq_getElem (by omega)⟩
   exact List.lt_trans (ih i x z hx hz) ((h (i + (d + 1) + 1) y hy).2 z (by omega) hz)
theorem steps_iffU {l : List α} : StepsK rt key l ↔ (∀ x ∈ l, rt x = true) ∧ l.Pairwise (fun a b => key a < key b) := by
 constructor
 · intro h
   refine ⟨fun x hx => ?_, List.pairwise_iff_getElem.2 (fun i j hi hj hij => ?_)⟩
   · obtain ⟨i, hi⟩ := List.mem_iff_getElem?.1 hx
     exact (h i x hi).1
   · exact steps_riseU h (j - i - 1) i _ _ (List.getElem?_eq_getElem hi) (by rw [show i + (j - i - 1) + 1 = j by omega]; exact List.getElem?_eq_getElem hj)
 · rintro ⟨h1, h2⟩ i x hx
   refine ⟨h1 x (List.mem_of_getElem? hx), fun y h0 hy => ?_⟩
   obtain ⟨hi, rfl⟩ := List.getElem?_eq_some_iff.1 hx
   obtain ⟨hj, rfl⟩ := List.getElem?_eq_some_iff.1 hy
   exact List.pairwise_iff_getElem.1 h2 (i - 1) i hj hi (by omega)
theorem kchk_iffU {l : List α} : kchkK rt key l = 0 ↔ l.length ≤ 64 ∧ (∀ x ∈ l, rt x = true) ∧ l.Pairwise (fun a b => key a < key b) := by
 rw [← steps_iffU]
 rcases kchkK_ways rt key l with ⟨h, g⟩ | ⟨h, g⟩
 · exact ⟨fun _ => g, fun _ => h⟩
 · exact ⟨(fun e => by rw [e] at h; rcases h with h | h <;> cases h), fun e => absurd e g⟩
end
theorem drop_okU {rt : Uv → Bool} {l : List Uv} (p : Bs) (h : kchkK rt (fun x => x.nm) l = 0) : kchkK rt (fun x => x.nm) (dropU l p) = 0 := by
 rw [kchk_iffU] at h ⊢
 exact ⟨Nat.le_trans (dropU_len l p) h.1, fun x hx => h.2.1 x (dropU_mem hx), h.2.2.filter _⟩
theorem put_okU {rt : Uv → Bool} {l : List Uv} {x : Uv} (h : kchkK rt (fun x => x.nm) l = 0) (hx : rt x = true) (hl : (putU l x).length ≤ 64) : kchkK rt (fun x => x.nm) (putU l x) = 0 := by
 rw [kchk_iffU] at h ⊢
 refine ⟨hl, fun y hy => (putU_mem hy).elim (h.2.1 y) (fun e => by rw [e]; exact hx), ?_⟩
 clear hl
 obtain ⟨-, -, h⟩ := h
 unfold putU
 cases hf : l.findIdx? (nmIsU x.nm) with
 | some k =>
   dsimp only
   obtain ⟨hk, h1, -⟩ := List.findIdx?_eq_some_iff_getElem.1 hf
   have e : l[k].nm = x.nm := of_decide_eq_true h1
   have hm : (l.set k x).map (fun y => y.nm) = l.map (fun y => y.nm) := by
     rw [List.map_set]
     apply List.ext_getElem?
     intro i
     rw [List.getElem?_set]
     split
     · rename_i hi
       subst hi
       rw [List.length_map]
       simp [hk, e]
     · rfl
   have h' : (l.map (fun y => y.nm)).Pairwise (fun a b => a < b) := List.pairwise_map.2 h
   rw [← hm] at h'
   exact List.pairwise_map.1 h'
 | none =>
   dsimp only
   have hno : ∀ y ∈ l, y.nm ≠ x.nm := fun y hy => of_decide_eq_false (List.findIdx?_eq_none_iff.1 hf y hy)
   have hc : (∀ y ∈ l.take (cutUU l x.nm), y.nm < x.nm) ∧ (∀ y, l[cutUU l x.nm]? = some y → x.nm < y.nm) := by
     unfold cutUU
     cases hg : l.findIdx? (nmOverU x.nm) with
     | none =>
       refine ⟨fun y hy => ?_, fun y hy => ?_⟩
       · have hy' := List.mem_of_mem_take hy
         exact of_decide_eq_true (overO_noUa (List.findIdx?_eq_none_iff.1 hg y hy') (hno y hy'))
       · dsimp only at hy
         rw [List.getElem?_eq_none (Nat.le_refl _)] at hy; cases hy
     | some k0 =>
       obtain ⟨hk, h1, h2⟩ := List.findIdx?_eq_some_iff_getElem.1 hg
       refine ⟨fun y hy => ?_, fun y hy => ?_⟩
       · obtain ⟨i, hi⟩ := List.mem_iff_getElem?.1 hy
         dsimp only at hi
         rw [List.getElem?_take] at hi
         split at hi
         · rename_i hlt
           obtain ⟨hi', rfl⟩ := List.getElem?_eq_some_iff.1 hi
           exact of_decide_eq_true (overO_noUa (Bool.eq_false_iff.2 (h2 i hlt)) (hno _ (List.getElem_mem hi')))
         · cases hi
       · obtain ⟨hk', rfl⟩ := List.getElem?_eq_some_iff.1 hy
         exact of_decide_eq_true h1
   generalize cutUU l x.nm = c at hc
   obtain ⟨h1, h2⟩ := hc
   have hsp := h
   rw [← List.take_append_drop c l, List.pairwise_append] at hsp
   obtain ⟨p1, p2, p3⟩ := hsp
   have hx2 : ∀ y ∈ l.drop c, x.nm < y.nm := fun y hy => by
     obtain ⟨i, hi⟩ := List.mem_iff_getElem?.1 hy
     rw [List.getElem?_drop] at hi
     have hl := (List.getElem?_eq_some_iff.1 hi).1
     obtain ⟨z, hz⟩ : ∃ z, l[c]? = some z := ⟨_, List.getElem?_eq_getElem (by omega)⟩
     have hxz := h2 z hz
     by_cases e : i = 0
     · subst e; rw [Nat.add_zero, hz] at hi; cases hi; exact hxz
     · obtain ⟨hc', rfl⟩ := List.getElem?_eq_some_iff.1 hz
       obtain ⟨hi', rfl⟩ := List.getElem?_eq_some_iff.1 hi
       exact List.lt_trans hxz (List.pairwise_iff_getElem.1 h c (c + i) hc' hi' (by omega))
   rw [List.pairwise_append]
   refine ⟨p1, List.pairwise_cons.2 ⟨hx2, p2⟩, fun a ha b hb => ?_⟩
   rcases List.mem_cons.1 hb with rfl | hb
   · exact h1 a ha
   · exact p3 a ha b hb
end Go.Proofs.YtnnagboeimeiiaaGreatDoor
