import Derived.Test.YtnnagboeimeiiaaGreatDoorWUAPutP
import Derived.Test.YtnnagboeimeiiaaGreatDoorWUAIns
namespace Go.Proofs.YtnnagboeimeiiaaGreatDoor
open Go.RowKit
abbrev flatOUa (l : List OvUa) : List Value := (l.map cellsOUa).flatten
theorem flatO_setUa : ∀ (l : List OvUa) (k : Nat) (x : OvUa), k < l.length → flatOUa (l.set k x) = (((((((((flatOUa l).set (k * 9) (.string (bsT x.1))).set (k * 9 + 1) (.string x.2.1)).set (k * 9 + 2) (.int .i64 x.2.2.1)).set (k * 9 + 3) (.slice x.2.2.2.1.1 x.2.2.2.1.2.1 x.2.2.2.1.2.2)).set (k * 9 + 4) (.slice x.2.2.2.2.1.1 x.2.2.2.2.1.2.1 x.2.2.2.2.1.2.2)).set (k * 9 + 5) (.slice x.2.2.2.2.2.1.1 x.2.2.2.2.2.1.2.1 x.2.2.2.2.2.1.2.2)).set (k * 9 + 6) (.slice x.2.2.2.2.2.2.1.1 x.2.2.2.2.2.2.1.2.1 x.2.2.2.2.2.2.1.2.2)).set (k * 9 + 7) (.slice x.2.2.2.2.2.2.2.1.1 x.2.2.2.2.2.2.2.1.2.1 x.2.2.2.2.2.2.2.1.2.2)).set (k * 9 + 8) (.slice x.2.2.2.2.2.2.2.2.1 x.2.2.2.2.2.2.2.2.2.1 x.2.2.2.2.2.2.2.2.2.2)
 | [], k, x, h => by simp at h
 | g :: l, 0, x, h => by simp [flatOUa]
 | g :: l, k + 1, x, h => by
   have := flatO_setUa l k x (by simpa using h)
   rw [List.set_cons_succ, show (k + 1) * 9 = k * 9 + 1 + 1 + 1 + 1 + 1 + 1 + 1 + 1 + 1 by omega, show k * 9 + 1 + 1 + 1 + 1 + 1 + 1 + 1 + 1 + 1 + 1 = k * 9 + 1 + 1 + 1 + 1 + 1 + 1 + 1 + 1 + 1 + 1 by omega, show k * 9 + 1 + 1 + 1 + 1 + 1 + 1 + 1 + 1 + 1 + 2 = k * 9 + 2 + 1 + 1 + 1 + 1 + 1 + 1 + 1 + 1 + 1 by omega, show k * 9 + 1 + 1 + 1 + 1 + 1 + 1 + 1 + 1 + 1 + 3 = k * 9 + 3 + 1 + 1 + 1 + 1 + 1 + 1 + 1 + 1 + 1 by omega, show k * 9 + 1 + 1 + 1 + 1 + 1 + 1 + 1 + 1 + 1 + 4 = k * 9 + 4 + 1 + 1 + 1 + 1 + 1 + 1 + 1 + 1 + 1 by omega, show k * 9 + 1 + 1 + 1 + 1 + 1 + 1 + 1 + 1 + 1 + 5 = k * 9 + 5 + 1 + 1 + 1 + 1 + 1 + 1 + 1 + 1 + 1 by omega, show k * 9 + 1 + 1 + 1 + 1 + 1 + 1 + 1 + 1 + 1 + 6 = k * 9 + 6 + 1 + 1 + 1 + 1 + 1 + 1 + 1 + 1 + 1 by omega, show k * 9 + 1 + 1 + 1 + 1 + 1 + 1 + 1 + 1 + 1 + 7 = k * 9 + 7 + 1 + 1 + 1 + 1 + 1 + 1 + 1 + 1 + 1 by omega, show k * 9 + 1 + 1 + 1 + 1 + 1 + 1 + 1 + 1 + 1 + 8 = k * 9 + 8 + 1 + 1 + 1 + 1 + 1 + 1 + 1 + 1 + 1 by omega]
   unfold flatOUa at this ⊢
   simp only [List.map_cons, List.flatten_cons, List.cons_append, List.nil_append, List.set_cons_succ]
   rw [this]
abbrev put4oUa (w : World) (g o : Nat) (x : OvUa) : World := ((((((((w.setCell ⟨g, o, none⟩ (.string (bsT x.1))).setCell ⟨g, o + 1, none⟩ (.string x.2.1)).setCell ⟨g, o + 2, none⟩ (.int .i64 x.2.2.1)).setCell ⟨g, o + 3, none⟩ (.slice x.2.2.2.1.1 x.2.2.2.1.2.1 x.2.2.2.1.2.2)).setCell ⟨g, o + 4, none⟩ (.slice x.2.2.2.2.1.1 x.2.2.2.2.1.2.1 x.2.2.2.2.1.2.2)).setCell ⟨g, o + 5, none⟩ (.slice x.2.2.2.2.2.1.1 x.2.2.2.2.2.1.2.1 x.2.2.2.2.2.1.2.2)).setCell ⟨g, o + 6, none⟩ (.slice x.2.2.2.2.2.2.1.1 x.2.2.2.2.2.2.1.2.1 x.2.2.2.2.2.2.1.2.2)).setCell ⟨g, o + 7, none⟩ (.slice x.2.2.2.2.2.2.2.1.1 x.2.2.2.2.2.2.2.1.2.1 x.2.2.2.2.2.2.2.1.2.2)).setCell ⟨g, o + 8, none⟩ (.slice x.2.2.2.2.2.2.2.2.1 x.2.2.2.2.2.2.2.2.2.1 x.2.2.2.2.2.2.2.2.2.2)
theorem flatO_lenUa (l : List OvUa) : (flatOUa l).length = l.length * 9 := by
 have := flat_len 9 (l.map cellsOUa) (cellsO_lenUa l)
 rwa [List.length_map] at this
theorem own_setOUa {w : World} {base g n c : Nat} {l : List OvUa} (h : OwnOUa w base (.slice (some ⟨g, 0, none⟩) n c) l) {k : Nat} (hk : k < l.length) (x : OvUa) :
   OwnOUa (put4oUa w g (k * 9) x) base (.slice (some ⟨g, 0, none⟩) n c) (l.set k x) ∧ w.grownBy (put4oUa w g (k * 9) x) (some g) := by
 have hl := h.2.1
 rw [List.length_map] at hl
 rcases h.2.2 with ⟨h0, _⟩ | ⟨g', c', cur, hv, hb, hg, hn, hm, hs, ht⟩
 · simp at h0
 · rw [List.length_map] at hv hn ht
   simp only [Value.slice.injEq, Option.some.injEq, Addr.mk.injEq, and_true] at hv
   obtain ⟨rfl, rfl, rfl⟩ := hv
   obtain ⟨C, hC⟩ : ∃ C, C = ((((((((cur.setIfInBounds (k * 9) (.string (bsT x.1))).setIfInBounds (k * 9 + 1) (.string x.2.1)).setIfInBounds (k * 9 + 2) (.int .i64 x.2.2.1)).setIfInBounds (k * 9 + 3) (.slice x.2.2.2.1.1 x.2.2.2.1.2.1 x.2.2.2.1.2.2)).setIfInBounds (k * 9 + 4) (.slice x.2.2.2.2.1.1 x.2.2.2.2.1.2.1 x.2.2.2.2.1.2.2)).setIfInBounds (k * 9 + 5) (.slice x.2.2.2.2.2.1.1 x.2.2.2.2.2.1.2.1 x.2.2.2.2.2.1.2.2)).setIfInBounds (k * 9 + 6) (.slice x.2.2.2.2.2.2.1.1 x.2.2.2.2.2.2.1.2.1 x.2.2.2.2.2.2.1.2.2)).setIfInBounds (k * 9 + 7) (.slice x.2.2.2.2.2.2.2.1.1 x.2.2.2.2.2.2.2.1.2.1 x.2.2.2.2.2.2.2.1.2.2)).setIfInBounds (k * 9 + 8) (.slice x.2.2.2.2.2.2.2.2.1 x.2.2.2.2.2.2.2.2.2.1 x.2.2.2.2.2.2.2.2.2.2) := ⟨_, rfl⟩
   have e : put4oUa w g (k * 9) x = w.setRow g C := by
     unfold put4oUa
     rw [setCell_eq_setRow w g (k * 9) cur _ (0, 0) _ hg]
     have h1 := setRow_heap w g cur (cur.setIfInBounds (k * 9) (.string (bsT x.1))) _ _ hg
     rw [setCell_eq_setRow _ g (k * 9 + 1) _ _ (0, 0) _ h1]
     have h2 := setRow_heap _ g _ ((cur.setIfInBounds (k * 9) (.string (bsT x.1))).setIfInBounds (k * 9 + 1) (.string x.2.1)) _ _ h1
     rw [setCell_eq_setRow _ g (k * 9 + 2) _ _ (0, 0) _ h2]
     have h3 := setRow_heap _ g _ (((cur.setIfInBounds (k * 9) (.string (bsT x.1))).setIfInBounds (k * 9 + 1) (.string x.2.1)).setIfInBounds (k * 9 + 2) (.int .i64 x.2.2.1)) _ _ h2
     rw [setCell_eq_setRow _ g (k * 9 + 3) _ _ (0, 0) _ h3]
     have h4 := setRow_heap _ g _ ((((cur.setIfInBounds (k * 9) (.string (bsT x.1))).setIfInBounds (k * 9 + 1) (.string x.2.1)).setIfInBounds (k * 9 + 2) (.int .i64 x.2.2.1)).setIfInBounds (k * 9 + 3) (.slice x.2.2.2.1.1 x.2.2.2.1.2.1 x.2.2.2.1.2.2)) _ _ h3
     rw [setCell_eq_setRow _ g (k * 9 + 4) _ _ (0, 0) _ h4]
     have h5 := setRow_heap _ g _ (((((cur.setIfInBounds (k * 9) (.string (bsT x.1))).setIfInBounds (k * 9 + 1) (.string x.2.1)).setIfInBounds (k * 9 + 2) (.int .i64 x.2.2.1)).setIfInBounds (k * 9 + 3) (.slice x.2.2.2.1.1 x.2.2.2.1.2.1 x.2.2.2.1.2.2)).setIfInBounds (k * 9 + 4) (.slice x.2.2.2.2.1.1 x.2.2.2.2.1.2.1 x.2.2.2.2.1.2.2)) _ _ h4
     rw [setCell_eq_setRow _ g (k * 9 + 5) _ _ (0, 0) _ h5]
     have h6 := setRow_heap _ g _ ((((((cur.setIfInBounds (k * 9) (.string (bsT x.1))).setIfInBounds (k * 9 + 1) (.string x.2.1)).setIfInBounds (k * 9 + 2) (.int .i64 x.2.2.1)).setIfInBounds (k * 9 + 3) (.slice x.2.2.2.1.1 x.2.2.2.1.2.1 x.2.2.2.1.2.2)).setIfInBounds (k * 9 + 4) (.slice x.2.2.2.2.1.1 x.2.2.2.2.1.2.1 x.2.2.2.2.1.2.2)).setIfInBounds (k * 9 + 5) (.slice x.2.2.2.2.2.1.1 x.2.2.2.2.2.1.2.1 x.2.2.2.2.2.1.2.2)) _ _ h5
     rw [setCell_eq_setRow _ g (k * 9 + 6) _ _ (0, 0) _ h6]
     have h7 := setRow_heap _ g _ (((((((cur.setIfInBounds (k * 9) (.string (bsT x.1))).setIfInBounds (k * 9 + 1) (.string x.2.1)).setIfInBounds (k * 9 + 2) (.int .i64 x.2.2.1)).setIfInBounds (k * 9 + 3) (.slice x.2.2.2.1.1 x.2.2.2.1.2.1 x.2.2.2.1.2.2)).setIfInBounds (k * 9 + 4) (.slice x.2.2.2.2.1.1 x.2.2.2.2.1.2.1 x.2.2.2.2.1.2.2)).setIfInBounds (k * 9 + 5) (.slice x.2.2.2.2.2.1.1 x.2.2.2.2.2.1.2.1 x.2.2.2.2.2.1.2.2)).setIfInBounds (k * 9 + 6) (.slice x.2.2.2.2.2.2.1.1 x.2.2.2.2.2.2.1.2.1 x.2.2.2.2.2.2.1.2.2)) _ _ h6
     rw [setCell_eq_setRow _ g (k * 9 + 7) _ _ (0, 0) _ h7]
     have h8 := setRow_heap _ g _ ((((((((cur.setIfInBounds (k * 9) (.string (bsT x.1))).setIfInBounds (k * 9 + 1) (.string x.2.1)).setIfInBounds (k * 9 + 2) (.int .i64 x.2.2.1)).setIfInBounds (k * 9 + 3) (.slice x.2.2.2.1.1 x.2.2.2.1.2.1 x.2.2.2.1.2.2)).setIfInBounds (k * 9 + 4) (.slice x.2.2.2.2.1.1 x.2.2.2.2.1.2.1 x.2.2.2.2.1.2.2)).setIfInBounds (k * 9 + 5) (.slice x.2.2.2.2.2.1.1 x.2.2.2.2.2.1.2.1 x.2.2.2.2.2.1.2.2)).setIfInBounds (k * 9 + 6) (.slice x.2.2.2.2.2.2.1.1 x.2.2.2.2.2.2.1.2.1 x.2.2.2.2.2.2.1.2.2)).setIfInBounds (k * 9 + 7) (.slice x.2.2.2.2.2.2.2.1.1 x.2.2.2.2.2.2.2.1.2.1 x.2.2.2.2.2.2.2.1.2.2)) _ _ h7
     rw [setCell_eq_setRow _ g (k * 9 + 8) _ _ (0, 0) _ h8]
     rw [setRow_setRow, setRow_setRow, setRow_setRow, setRow_setRow, setRow_setRow, setRow_setRow, setRow_setRow, setRow_setRow, hC]
   rw [e]
   refine ⟨⟨cellsO_lenUa _, ?_⟩, ⟨rfl, rfl, rfl, by simp, fun j hj hne => setRow_other w g j C (fun e => hne (by rw [e]))⟩⟩
   rw [List.length_map, List.length_set]
   refine ⟨by have := flatO_lenUa (l.set k x); rw [List.length_set] at this; exact this, .inr ⟨g, c, C, rfl, hb, setRow_heap w g cur C _ _ hg, hn, hm, by rw [hC]; simp [hs], ?_⟩⟩
   have := flatO_setUa l k x hk
   unfold flatOUa at this
   rw [this, ← ht, hC]
   simp only [Array.toList_setIfInBounds, List.take_set]
theorem formOUa {w : World} {base : Nat} {v : Value} {l : List OvUa} (h : OwnOUa w base v l) (h0 : 0 < l.length) : ∃ g c, v = .slice (some ⟨g, 0, none⟩) l.length c := by
 rcases h.2.2 with ⟨_, h1⟩ | ⟨g, c, cur, hv, _⟩
 · rw [List.length_map] at h1; omega
 · rw [List.length_map] at hv; exact ⟨g, c, hv⟩
theorem cellsAtOUa {w : World} {base g n c : Nat} {l : List OvUa} (h : OwnOUa w base (.slice (some ⟨g, 0, none⟩) n c) l) {k : Nat} (hk : k < l.length) : (∀ j, w.frozen? ⟨g, j, none⟩ = false) ∧ ∃ a b1 b2 b3a b3n b3c b4a b4n b4c b5a b5n b5c b6a b6n b6c b7a b7n b7c b8a b8n b8c, w.cell? ⟨g, k * 9, none⟩ = some (.string a) ∧ w.cell? ⟨g, k * 9 + 1, none⟩ = some (.string b1) ∧ w.cell? ⟨g, k * 9 + 2, none⟩ = some (.int .i64 b2) ∧ w.cell? ⟨g, k * 9 + 3, none⟩ = some (.slice b3a b3n b3c) ∧ w.cell? ⟨g, k * 9 + 4, none⟩ = some (.slice b4a b4n b4c) ∧ w.cell? ⟨g, k * 9 + 5, none⟩ = some (.slice b5a b5n b5c) ∧ w.cell? ⟨g, k * 9 + 6, none⟩ = some (.slice b6a b6n b6c) ∧ w.cell? ⟨g, k * 9 + 7, none⟩ = some (.slice b7a b7n b7c) ∧ w.cell? ⟨g, k * 9 + 8, none⟩ = some (.slice b8a b8n b8c) := by
 obtain ⟨a, c', b, o, e, hc, ha, hcell⟩ := HoldOUa.parts h.holds
 simp only [Value.slice.injEq] at e
 obtain ⟨rfl, rfl, rfl⟩ := e
 obtain ⟨ea, _⟩ := ha (by omega)
 cases ea
 obtain ⟨x, hx⟩ : ∃ x, l[k]? = some x := ⟨_, List.getElem?_eq_getElem hk⟩
 obtain ⟨c0, c1, c2, c3, c4, c5, c6, c7, c8⟩ := hcell k x hx
 rw [Nat.zero_add] at c0 c1 c2 c3 c4 c5 c6 c7 c8
 refine ⟨fun j => ?_, _, _, _, _, _, _, _, _, _, _, _, _, _, _, _, _, _, _, _, _, _, c0, c1, c2, c3, c4, c5, c6, c7, c8⟩
 rcases h.2.2 with ⟨h0, _⟩ | ⟨g', c', cur, hv, hb, hg, _⟩
 · simp at h0
 · simp only [Value.slice.injEq, Option.some.injEq, Addr.mk.injEq] at hv
   obtain ⟨⟨rfl, _⟩, _⟩ := hv
   simp [World.frozen?, hg]
abbrev oXUa (x : OvUa) : Obj := .cells #[.string (bsT x.1), .string x.2.1, .int .i64 x.2.2.1, .slice x.2.2.2.1.1 x.2.2.2.1.2.1 x.2.2.2.1.2.2, .slice x.2.2.2.2.1.1 x.2.2.2.2.1.2.1 x.2.2.2.2.1.2.2, .slice x.2.2.2.2.2.1.1 x.2.2.2.2.2.1.2.1 x.2.2.2.2.2.1.2.2, .slice x.2.2.2.2.2.2.1.1 x.2.2.2.2.2.2.1.2.1 x.2.2.2.2.2.2.1.2.2, .slice x.2.2.2.2.2.2.2.1.1 x.2.2.2.2.2.2.2.1.2.1 x.2.2.2.2.2.2.2.1.2.2, .slice x.2.2.2.2.2.2.2.2.1 x.2.2.2.2.2.2.2.2.2.1 x.2.2.2.2.2.2.2.2.2.2] 43
abbrev oKUa : Obj := .cells #[kyOUa] 66
theorem boxesOUa {w W : World} {x : OvUa} (hb : Below ((w.alloc oKUa).alloc (oXUa x)).heap.size ((w.alloc oKUa).alloc (oXUa x)) W) :
   Below w.heap.size w W ∧ W.cell? ⟨w.heap.size, 0, none⟩ = some kyOUa ∧ W.cell? ⟨w.heap.size + 1, 0, none⟩ = some (.string (bsT x.1)) ∧ W.cell? ⟨w.heap.size + 1, 1, none⟩ = some (.string x.2.1) ∧ W.cell? ⟨w.heap.size + 1, 2, none⟩ = some (.int .i64 x.2.2.1) ∧ W.cell? ⟨w.heap.size + 1, 3, none⟩ = some (.slice x.2.2.2.1.1 x.2.2.2.1.2.1 x.2.2.2.1.2.2) ∧ W.cell? ⟨w.heap.size + 1, 4, none⟩ = some (.slice x.2.2.2.2.1.1 x.2.2.2.2.1.2.1 x.2.2.2.2.1.2.2) ∧ W.cell? ⟨w.heap.size + 1, 5, none⟩ = some (.slice x.2.2.2.2.2.1.1 x.2.2.2.2.2.1.2.1 x.2.2.2.2.2.1.2.2) ∧ W.cell? ⟨w.heap.size + 1, 6, none⟩ = some (.slice x.2.2.2.2.2.2.1.1 x.2.2.2.2.2.2.1.2.1 x.2.2.2.2.2.2.1.2.2) ∧ W.cell? ⟨w.heap.size + 1, 7, none⟩ = some (.slice x.2.2.2.2.2.2.2.1.1 x.2.2.2.2.2.2.2.1.2.1 x.2.2.2.2.2.2.2.1.2.2) ∧ W.cell? ⟨w.heap.size + 1, 8, none⟩ = some (.slice x.2.2.2.2.2.2.2.2.1 x.2.2.2.2.2.2.2.2.2.1 x.2.2.2.2.2.2.2.2.2.2) := by
 have B1 := (Below.refl w.heap.size w).alloc (Nat.le_refl _) oKUa
 have B2 := B1.alloc B1.size (oXUa x)
 have q1 := (Boxed.new w 66 kyOUa).alloc (oXUa x)
 obtain ⟨x0, x1, x2, x3, x4, x5, x6, x7, x8⟩ := box9_onUa hb
 rw [World.size_alloc] at x0 x1 x2 x3 x4 x5 x6 x7 x8
 exact ⟨B2.trans (hb.mono B2.size), (hb.cell q1.lt).trans q1.cell, x0, x1, x2, x3, x4, x5, x6, x7, x8⟩
set_option maxRecDepth 100000 in
set_option maxHeartbeats 8000000 in
theorem kputO_oldUa (v : Value) (l : List OvUa) (hl : l.length ≤ 90000) (x : OvUa) (w : World) (h : HoldOUa w v l) (k0 : Nat) (hk0 : l.findIdx? (pathIsOUa x.1) = some k0) : Calls Tryz.prog 58 #[v, kyOUa, aggOUa x] w (PutPostOUa l x w) := by
 have hi0 : idxOUa l (pathIsOUa x.1) = (k0 : Int) := by unfold idxOUa; rw [hk0]
 have hP : putOUa l x = l.set k0 x := by unfold putOUa; rw [hk0]
 have hkl : k0 < l.length := (List.findIdx?_eq_some_iff_getElem.1 hk0).1
 have HP : Hid (∀ v w', HoldOUa w' v (l.set k0 x) → Below w.heap.size w w' → PutPostOUa l x w (.returned v) w') := Lib.hid (fun v w' h1 h2 => ⟨v, rfl, by rw [hP]; exact h1, h2⟩)
 have HSET := Lib.hid (fun (W : World) (base g n c : Nat) (h : OwnOUa W base (.slice (some ⟨g, 0, none⟩) n c) l) => own_setOUa h hkl x)
 have HFORM := Lib.hid (fun (W : World) (base : Nat) (u : Value) (h : OwnOUa W base u l) => formOUa h (by omega))
 have HCELL := Lib.hid (fun (W : World) (base g n c : Nat) (h : OwnOUa W base (.slice (some ⟨g, 0, none⟩) n c) l) => cellsAtOUa h hkl)
 obtain ⟨B2, -⟩ := boxesOUa (x := x) (Below.refl ((w.alloc oKUa).alloc (oXUa x)).heap.size ((w.alloc oKUa).alloc (oXUa x)))
 have HBX := Lib.hid (fun W (hb : Below ((w.alloc oKUa).alloc (oXUa x)).heap.size ((w.alloc oKUa).alloc (oXUa x)) W) => boxesOUa hb)
 have CA := cloneO_anyUa v l hl ((w.alloc oKUa).alloc (oXUa x)) (HoldV.on h B2)
 have KF := fun W (hb : Below w.heap.size w W) => kfindO_anyUa v l hl (bsT x.1) W (HoldV.on h hb)
 have PA := fun X p1 p2 p3a p3n p3c p4a p4n p4c p5a p5n p5c p6a p6n p6c p7a p7n p7c p8a p8n p8c w => pathOf_anyUa X p1 p2 p3a p3n p3c p4a p4n p4c p5a p5n p5c p6a p6n p6c p7a p7n p7c p8a p8n p8c w
 rw [bytesOf, hi0] at KF
 unfold kyOUa at KF ⊢
 unfold aggOUa
 have HB2 := Lib.hid B2
 obtain ⟨a, c, b, o, rfl, -, -, -⟩ := h.parts
 clear B2 h hk0 hi0 hP
 obtain ⟨X, hX⟩ : ∃ X, bsT x.1 = X := ⟨_, rfl⟩
 unfold oXUa oKUa kyOUa at CA HBX HB2
 rw [hX] at KF ⊢
 simp only [hX] at CA HBX HB2
 have HXX := Lib.hid hX
 clear hX
 generalize l.length = n at *
 go_enter Tryz.func58, Tryz.ntmps58
 go_wp2_with (go_at_call 108; refine CA.mono ?_; rintro e w3 ⟨v3, rfl, ho, hb⟩; have HO3 := Lib.hid ho; obtain ⟨g, cg, rfl⟩ := HFORM.out _ _ _ ho; have hbx := HBX.out _ hb; have HB3 := Lib.hid hbx.1; have hcx := hbx.2; clear ho hb hbx)
 have hsz3 := HB3.out.size
 obtain ⟨k1, e0, e1, e2, e3, e4, e5, e6, e7, e8⟩ := hcx
 have hs := And.intro k1 (And.intro e0 (And.intro e1 (And.intro e2 (And.intro e3 (And.intro e4 (And.intro e5 (And.intro e6 (And.intro e7 (And.intro e8 (Below.refl w3.heap.size w3))))))))))
 have hB := Below.refl w3.heap.size w3
 clear CA
 have KQ := Lib.hid (atK w3 [(⟨w.heap.size, 0, none⟩, .func (.func 36) #[] #[]), (⟨w.heap.size + 1, 0, none⟩, .string X), (⟨w.heap.size + 1, 1, none⟩, .string x.2.1), (⟨w.heap.size + 1, 2, none⟩, .int .i64 x.2.2.1), (⟨w.heap.size + 1, 3, none⟩, .slice x.2.2.2.1.1 x.2.2.2.1.2.1 x.2.2.2.1.2.2), (⟨w.heap.size + 1, 4, none⟩, .slice x.2.2.2.2.1.1 x.2.2.2.2.1.2.1 x.2.2.2.2.1.2.2), (⟨w.heap.size + 1, 5, none⟩, .slice x.2.2.2.2.2.1.1 x.2.2.2.2.2.1.2.1 x.2.2.2.2.2.1.2.2), (⟨w.heap.size + 1, 6, none⟩, .slice x.2.2.2.2.2.2.1.1 x.2.2.2.2.2.2.1.2.1 x.2.2.2.2.2.2.1.2.2), (⟨w.heap.size + 1, 7, none⟩, .slice x.2.2.2.2.2.2.2.1.1 x.2.2.2.2.2.2.2.1.2.1 x.2.2.2.2.2.2.2.1.2.2), (⟨w.heap.size + 1, 8, none⟩, .slice x.2.2.2.2.2.2.2.2.1 x.2.2.2.2.2.2.2.2.2.1 x.2.2.2.2.2.2.2.2.2.2)])
 have BE := fun (V : World) (h : V.cell? ⟨w.heap.size, 0, none⟩ = some (.func (.func 36) #[] #[]) ∧ V.cell? ⟨w.heap.size + 1, 0, none⟩ = some (.string X) ∧ V.cell? ⟨w.heap.size + 1, 1, none⟩ = some (.string x.2.1) ∧ V.cell? ⟨w.heap.size + 1, 2, none⟩ = some (.int .i64 x.2.2.1) ∧ V.cell? ⟨w.heap.size + 1, 3, none⟩ = some (.slice x.2.2.2.1.1 x.2.2.2.1.2.1 x.2.2.2.1.2.2) ∧ V.cell? ⟨w.heap.size + 1, 4, none⟩ = some (.slice x.2.2.2.2.1.1 x.2.2.2.2.1.2.1 x.2.2.2.2.1.2.2) ∧ V.cell? ⟨w.heap.size + 1, 5, none⟩ = some (.slice x.2.2.2.2.2.1.1 x.2.2.2.2.2.1.2.1 x.2.2.2.2.2.1.2.2) ∧ V.cell? ⟨w.heap.size + 1, 6, none⟩ = some (.slice x.2.2.2.2.2.2.1.1 x.2.2.2.2.2.2.1.2.1 x.2.2.2.2.2.2.1.2.2) ∧ V.cell? ⟨w.heap.size + 1, 7, none⟩ = some (.slice x.2.2.2.2.2.2.2.1.1 x.2.2.2.2.2.2.2.1.2.1 x.2.2.2.2.2.2.2.1.2.2) ∧ V.cell? ⟨w.heap.size + 1, 8, none⟩ = some (.slice x.2.2.2.2.2.2.2.2.1 x.2.2.2.2.2.2.2.2.2.1 x.2.2.2.2.2.2.2.2.2.2) ∧ Below w3.heap.size w3 V) => AtF.be (w := w3) (l := [(⟨w.heap.size, 0, none⟩, .func (.func 36) #[] #[]), (⟨w.heap.size + 1, 0, none⟩, .string X), (⟨w.heap.size + 1, 1, none⟩, .string x.2.1), (⟨w.heap.size + 1, 2, none⟩, .int .i64 x.2.2.1), (⟨w.heap.size + 1, 3, none⟩, .slice x.2.2.2.1.1 x.2.2.2.1.2.1 x.2.2.2.1.2.2), (⟨w.heap.size + 1, 4, none⟩, .slice x.2.2.2.2.1.1 x.2.2.2.2.1.2.1 x.2.2.2.2.1.2.2), (⟨w.heap.size + 1, 5, none⟩, .slice x.2.2.2.2.2.1.1 x.2.2.2.2.2.1.2.1 x.2.2.2.2.2.1.2.2), (⟨w.heap.size + 1, 6, none⟩, .slice x.2.2.2.2.2.2.1.1 x.2.2.2.2.2.2.1.2.1 x.2.2.2.2.2.2.1.2.2), (⟨w.heap.size + 1, 7, none⟩, .slice x.2.2.2.2.2.2.2.1.1 x.2.2.2.2.2.2.2.1.2.1 x.2.2.2.2.2.2.2.1.2.2), (⟨w.heap.size + 1, 8, none⟩, .slice x.2.2.2.2.2.2.2.2.1 x.2.2.2.2.2.2.2.2.2.1 x.2.2.2.2.2.2.2.2.2.2)]) h
 go_region_held3 (fun V => V.cell? ⟨w.heap.size, 0, none⟩ = some (.func (.func 36) #[] #[]) ∧ V.cell? ⟨w.heap.size + 1, 0, none⟩ = some (.string X) ∧ V.cell? ⟨w.heap.size + 1, 1, none⟩ = some (.string x.2.1) ∧ V.cell? ⟨w.heap.size + 1, 2, none⟩ = some (.int .i64 x.2.2.1) ∧ V.cell? ⟨w.heap.size + 1, 3, none⟩ = some (.slice x.2.2.2.1.1 x.2.2.2.1.2.1 x.2.2.2.1.2.2) ∧ V.cell? ⟨w.heap.size + 1, 4, none⟩ = some (.slice x.2.2.2.2.1.1 x.2.2.2.2.1.2.1 x.2.2.2.2.1.2.2) ∧ V.cell? ⟨w.heap.size + 1, 5, none⟩ = some (.slice x.2.2.2.2.2.1.1 x.2.2.2.2.2.1.2.1 x.2.2.2.2.2.1.2.2) ∧ V.cell? ⟨w.heap.size + 1, 6, none⟩ = some (.slice x.2.2.2.2.2.2.1.1 x.2.2.2.2.2.2.1.2.1 x.2.2.2.2.2.2.1.2.2) ∧ V.cell? ⟨w.heap.size + 1, 7, none⟩ = some (.slice x.2.2.2.2.2.2.2.1.1 x.2.2.2.2.2.2.2.1.2.1 x.2.2.2.2.2.2.2.1.2.2) ∧ V.cell? ⟨w.heap.size + 1, 8, none⟩ = some (.slice x.2.2.2.2.2.2.2.2.1 x.2.2.2.2.2.2.2.2.2.1 x.2.2.2.2.2.2.2.2.2.2) ∧ Below w3.heap.size w3 V)
   (first | assumption | exact hs | exact KQ.out.dr _ hs | exact KQ.out.dr _ (by assumption) | exact KQ.out.on _ _ (by assumption) (by assumption) | exact KQ.out.al _ _ (by assumption) | exact KQ.out.ald _ _ (by assumption) | exact KQ.out.al _ _ hs | exact KQ.out.ald _ _ hs)
   (((first | (go_at_call 36; (with_reducible refine (PA _ _ _ _ _ _ _ _ _ _ _ _ _ _ _ _ _ _ _ _ _ _).mono ?_); rintro e w4 ⟨rfl, hb⟩) | (go_at_call 60; (with_reducible refine (KF _ (HB3.out.trans ((BE _ (by assumption)).mono hsz3))).mono ?_); rintro e w4 ⟨rfl, hb⟩))))
 all_goals
   rename_i hHeld
   obtain ⟨-, e0, e1, e2, e3, e4, e5, e6, e7, e8, hB4⟩ := hHeld
   have HO4 := Lib.hid (OwnV.on HO3.out hB4)
   have HB4 := Lib.hid (HB3.out.trans (hB4.mono hsz3))
   obtain ⟨fz, d0, d_b1, d_b2, d_b3a, d_b3n, d_b3c, d_b4a, d_b4n, d_b4c, d_b5a, d_b5n, d_b5c, d_b6a, d_b6n, d_b6c, d_b7a, d_b7n, d_b7c, d_b8a, d_b8n, d_b8c, r0, r1, r2, r3, r4, r5, r6, r7, r8⟩ := HCELL.out _ _ _ _ _ HO4.out
   have f0 := fz (k0 * 9)
   have f1 := fz (k0 * 9 + 1)
   have f2 := fz (k0 * 9 + 2)
   have f3 := fz (k0 * 9 + 3)
   have f4 := fz (k0 * 9 + 4)
   have f5 := fz (k0 * 9 + 5)
   have f6 := fz (k0 * 9 + 6)
   have f7 := fz (k0 * 9 + 7)
   have f8 := fz (k0 * 9 + 8)
   have hS := Lib.hid (HSET.out _ _ _ _ _ HO4.out)
   have hlt := (World.ownsRow.lt HO4.out.2 g rfl)
   have hgw : w.heap.size ≤ g := by have := hlt.1; simp only [World.size_alloc] at this; omega
   have hk1 : (0 : Int) ≤ (k0 : Int) := by omega
   clear hB4 hs fz HSET HCELL HFORM KF hB BE hlt HBX HB2
   go_wp2
   go_ret
   exact HP.out _ _ (by have := hS.out.1.holds; unfold put4oUa at this; rw [HXX.out] at this; exact this) (by have := HB4.out.grown hS.out.2 HB4.out.size (fun k hk => by cases hk; exact hgw); unfold put4oUa at this; rw [HXX.out] at this; exact this)
theorem oversO_noneUa {l : List OvUa} {p : Bs} : idxOUa l (overOUa p) = -1 ∧ cutPOUa l p = l.length ∨ ∃ k : Nat, idxOUa l (overOUa p) = k ∧ cutPOUa l p = k ∧ k < l.length := by
 unfold idxOUa cutPOUa
 cases h : l.findIdx? (overOUa p) with
 | none => exact .inl ⟨rfl, rfl⟩
 | some k => exact .inr ⟨k, rfl, rfl, (List.findIdx?_eq_some_iff_getElem.1 h).1⟩
theorem own_neVUa {T : TypeId} {k : Nat} {w : World} {base : Nat} {v : Value} {rows : List Rw} (h : OwnV T k w base v rows) : v.ownBlock ≠ some w.heap.size := fun e => by have := (World.ownsRow.lt h.2 _ e).2; omega
theorem flat_cutUa (k : Nat) : ∀ (rows : List Rw) (i : Nat), (∀ r ∈ rows, r.length = k) → rows.flatten.take (i * k) = (rows.take i).flatten ∧ rows.flatten.drop (i * k) = (rows.drop i).flatten
 | [], i, _ => by simp
 | r :: rows, 0, _ => by simp
 | r :: rows, i + 1, h => by
   have hr : r.length = k := h r (by simp)
   obtain ⟨h1, h2⟩ := flat_cutUa k rows i (fun q hq => h q (by simp [hq]))
   have e : (i + 1) * k = r.length + i * k := by rw [hr, Nat.add_mul]; omega
   rw [List.flatten_cons, e]
   refine ⟨?_, ?_⟩
   · rw [List.take_append, List.take_of_length_le (by omega), Nat.add_sub_cancel_left, h1]; simp
   · rw [List.drop_append, List.drop_of_length_le (by omega), Nat.add_sub_cancel_left, h2]; simp
theorem ins_ovUa (base : Nat) (v : Value) (cur : List OvUa) (x : OvUa) (i : Nat) (hi : i ≤ cur.length) (hl : cur.length ≤ 90000) (w2 : World) (h : OwnOUa w2 base v cur) (hbase : base ≤ w2.heap.size) :
   Calls Tryz.prog 111 #[v, .int .i64 i, .slice (some ⟨w2.heap.size, 0, none⟩) 1 1] (w2.alloc (oXUa x)) fun e w' =>
     ∃ v', e = .returned v' ∧ OwnOUa w' base v' (cur.take i ++ x :: cur.drop i) ∧ (w2.alloc (oXUa x)).grownBy w' v.ownBlock := by
 have hO := World.ownsRow.alloc h.2 (oXUa x)
 rw [List.length_map] at hO
 refine (insert_ownUa base cur.length v (cur.map cellsOUa).flatten (cellsOUa x) _ hO (OwnOUa.one cur) i hi hl w2.heap.size 43 rfl (World.alloc_heap_new w2 _) (fun u hu => by simp at hu; rcases hu with rfl | rfl | rfl | rfl | rfl | rfl | rfl | rfl | rfl <;> rfl) (own_neVUa h) (by simp; omega)).mono ?_
 rintro e w' ⟨v', rfl, ho, hg⟩
 refine ⟨v', rfl, ⟨cellsO_lenUa _, ?_⟩, hg⟩
 obtain ⟨h1, h2⟩ := flat_cutUa 9 (cur.map cellsOUa) i (cellsO_lenUa cur)
 rw [h1, h2] at ho
 have e1 : ((cur.take i ++ x :: cur.drop i).map cellsOUa).flatten = ((cur.map cellsOUa).take i).flatten ++ cellsOUa x ++ ((cur.map cellsOUa).drop i).flatten := by
   rw [List.map_append, List.map_cons, List.flatten_append, List.flatten_cons, List.map_take, List.map_drop]; simp
 have e2 : ((cur.take i ++ x :: cur.drop i).map cellsOUa).length = cur.length + 1 := by simp; omega
 rw [e1, e2]; exact ho
set_option maxRecDepth 100000 in
set_option maxHeartbeats 8000000 in
theorem kputO_newUa (v : Value) (l : List OvUa) (hl : l.length ≤ 90000) (x : OvUa) (w : World) (h : HoldOUa w v l) (hk0 : l.findIdx? (pathIsOUa x.1) = none) : Calls Tryz.prog 58 #[v, kyOUa, aggOUa x] w (PutPostOUa l x w) := by
 have hi0 : idxOUa l (pathIsOUa x.1) = -1 := by unfold idxOUa; rw [hk0]
 have hP : putOUa l x = l.take (cutPOUa l x.1) ++ x :: l.drop (cutPOUa l x.1) := by unfold putOUa; rw [hk0]
 obtain ⟨m, hm⟩ : ∃ m, cutPOUa l x.1 = m := ⟨_, rfl⟩
 have hml : m ≤ l.length := by
   rcases oversO_noneUa (l := l) (p := x.1) with ⟨-, h2⟩ | ⟨k, -, h2, h3⟩ <;> omega
 have HP : Hid (∀ v w', HoldOUa w' v (l.take m ++ x :: l.drop m) → Below w.heap.size w w' → PutPostOUa l x w (.returned v) w') := Lib.hid (fun v w' h1 h2 => ⟨v, rfl, by rw [hP, hm]; exact h1, h2⟩)
 have HW : Hid (idxOUa l (overOUa x.1) = -1 ∧ m = l.length ∨ ∃ k : Nat, idxOUa l (overOUa x.1) = k ∧ m = k ∧ k < l.length) := Lib.hid (by rw [← hm]; exact oversO_noneUa)
 obtain ⟨B2, -⟩ := boxesOUa (x := x) (Below.refl ((w.alloc oKUa).alloc (oXUa x)).heap.size ((w.alloc oKUa).alloc (oXUa x)))
 have HBX := Lib.hid (fun W (hb : Below ((w.alloc oKUa).alloc (oXUa x)).heap.size ((w.alloc oKUa).alloc (oXUa x)) W) => boxesOUa hb)
 have CA := cloneO_anyUa v l hl ((w.alloc oKUa).alloc (oXUa x)) (HoldV.on h B2)
 have KF := fun W (hb : Below w.heap.size w W) => kfindO_anyUa v l hl (bsT x.1) W (HoldV.on h hb)
 have IX := fun W (hb : Below w.heap.size w W) (h1 : W.cell? ⟨w.heap.size, 0, none⟩ = some kyOUa) (g0 : W.cell? ⟨w.heap.size + 1, 0, none⟩ = some (.string (bsT x.1))) (g1 : W.cell? ⟨w.heap.size + 1, 1, none⟩ = some (.string x.2.1)) (g2 : W.cell? ⟨w.heap.size + 1, 2, none⟩ = some (.int .i64 x.2.2.1)) (g3 : W.cell? ⟨w.heap.size + 1, 3, none⟩ = some (.slice x.2.2.2.1.1 x.2.2.2.1.2.1 x.2.2.2.1.2.2)) (g4 : W.cell? ⟨w.heap.size + 1, 4, none⟩ = some (.slice x.2.2.2.2.1.1 x.2.2.2.2.1.2.1 x.2.2.2.2.1.2.2)) (g5 : W.cell? ⟨w.heap.size + 1, 5, none⟩ = some (.slice x.2.2.2.2.2.1.1 x.2.2.2.2.2.1.2.1 x.2.2.2.2.2.1.2.2)) (g6 : W.cell? ⟨w.heap.size + 1, 6, none⟩ = some (.slice x.2.2.2.2.2.2.1.1 x.2.2.2.2.2.2.1.2.1 x.2.2.2.2.2.2.1.2.2)) (g7 : W.cell? ⟨w.heap.size + 1, 7, none⟩ = some (.slice x.2.2.2.2.2.2.2.1.1 x.2.2.2.2.2.2.2.1.2.1 x.2.2.2.2.2.2.2.1.2.2)) (g8 : W.cell? ⟨w.heap.size + 1, 8, none⟩ = some (.slice x.2.2.2.2.2.2.2.2.1 x.2.2.2.2.2.2.2.2.2.1 x.2.2.2.2.2.2.2.2.2.2)) =>
   idxO_anyUa 110 #[.pointer (some ⟨w.heap.size, 0, none⟩), .pointer (some ⟨w.heap.size + 1, 0, none⟩)] (enters_of Tryz.func110 (by kernel_rfl) rfl) (overOUa (bsT x.1).data.toList) v l hl W (HoldV.on h hb)
     (fun W2 y hb2 => putpO_anyUa w.heap.size (w.heap.size + 1) (bsT x.1) x.2.1 x.2.2.1 x.2.2.2.1.1 x.2.2.2.1.2.1 x.2.2.2.1.2.2 x.2.2.2.2.1.1 x.2.2.2.2.1.2.1 x.2.2.2.2.1.2.2 x.2.2.2.2.2.1.1 x.2.2.2.2.2.1.2.1 x.2.2.2.2.2.1.2.2 x.2.2.2.2.2.2.1.1 x.2.2.2.2.2.2.1.2.1 x.2.2.2.2.2.2.1.2.2 x.2.2.2.2.2.2.2.1.1 x.2.2.2.2.2.2.2.1.2.1 x.2.2.2.2.2.2.2.1.2.2 x.2.2.2.2.2.2.2.2.1 x.2.2.2.2.2.2.2.2.2.1 x.2.2.2.2.2.2.2.2.2.2 y W2 ((hb2.cell (World.block_lt_of_cell? W _ h1)).trans h1) ((hb2.cell (World.block_lt_of_cell? W _ g0)).trans g0) ((hb2.cell (World.block_lt_of_cell? W _ g1)).trans g1) ((hb2.cell (World.block_lt_of_cell? W _ g2)).trans g2) ((hb2.cell (World.block_lt_of_cell? W _ g3)).trans g3) ((hb2.cell (World.block_lt_of_cell? W _ g4)).trans g4) ((hb2.cell (World.block_lt_of_cell? W _ g5)).trans g5) ((hb2.cell (World.block_lt_of_cell? W _ g6)).trans g6) ((hb2.cell (World.block_lt_of_cell? W _ g7)).trans g7) ((hb2.cell (World.block_lt_of_cell? W _ g8)).trans g8))
 have INS := Lib.hid (fun (base : Nat) (u : Value) (W : World) (ho : OwnOUa W base u l) (hbase : base ≤ W.heap.size) => ins_ovUa base u l x m hml hl W ho hbase)
 have PA := fun X p1 p2 p3a p3n p3c p4a p4n p4c p5a p5n p5c p6a p6n p6c p7a p7n p7c p8a p8n p8c w => pathOf_anyUa X p1 p2 p3a p3n p3c p4a p4n p4c p5a p5n p5c p6a p6n p6c p7a p7n p7c p8a p8n p8c w
 rw [bytesOf, hi0] at KF
 rw [bytesOf] at IX
 unfold kyOUa at KF IX ⊢
 unfold aggOUa
 have HB2 := Lib.hid B2
 obtain ⟨a, c, b, o, rfl, -, -, -⟩ := h.parts
 clear B2 h hk0 hi0 hP hm
 generalize idxOUa l (overOUa x.1) = z at *
 obtain ⟨X, hX⟩ : ∃ X, bsT x.1 = X := ⟨_, rfl⟩
 unfold oXUa oKUa kyOUa at CA HBX HB2
 unfold oXUa at INS
 rw [hX] at KF ⊢
 simp only [hX] at CA HBX HB2 IX INS
 clear hX
 generalize l.length = n at *
 go_enter Tryz.func58, Tryz.ntmps58
 go_wp2_with (go_at_call 108; refine CA.mono ?_; rintro e w3 ⟨v3, rfl, ho, hb⟩; have hbx := HBX.out _ hb; have HB3 := Lib.hid hbx.1; have HO3 := Lib.hid (OwnV.mono (B := w.heap.size) ho (by simp only [World.size_alloc]; omega)); have hcx := hbx.2; clear ho hb hbx)
 have hsz3 := HB3.out.size
 obtain ⟨k1, e0, e1, e2, e3, e4, e5, e6, e7, e8⟩ := hcx
 have hs := And.intro k1 (And.intro e0 (And.intro e1 (And.intro e2 (And.intro e3 (And.intro e4 (And.intro e5 (And.intro e6 (And.intro e7 (And.intro e8 (Below.refl w3.heap.size w3))))))))))
 have hB := Below.refl w3.heap.size w3
 clear CA
 have KQ := Lib.hid (atK w3 [(⟨w.heap.size, 0, none⟩, .func (.func 36) #[] #[]), (⟨w.heap.size + 1, 0, none⟩, .string X), (⟨w.heap.size + 1, 1, none⟩, .string x.2.1), (⟨w.heap.size + 1, 2, none⟩, .int .i64 x.2.2.1), (⟨w.heap.size + 1, 3, none⟩, .slice x.2.2.2.1.1 x.2.2.2.1.2.1 x.2.2.2.1.2.2), (⟨w.heap.size + 1, 4, none⟩, .slice x.2.2.2.2.1.1 x.2.2.2.2.1.2.1 x.2.2.2.2.1.2.2), (⟨w.heap.size + 1, 5, none⟩, .slice x.2.2.2.2.2.1.1 x.2.2.2.2.2.1.2.1 x.2.2.2.2.2.1.2.2), (⟨w.heap.size + 1, 6, none⟩, .slice x.2.2.2.2.2.2.1.1 x.2.2.2.2.2.2.1.2.1 x.2.2.2.2.2.2.1.2.2), (⟨w.heap.size + 1, 7, none⟩, .slice x.2.2.2.2.2.2.2.1.1 x.2.2.2.2.2.2.2.1.2.1 x.2.2.2.2.2.2.2.1.2.2), (⟨w.heap.size + 1, 8, none⟩, .slice x.2.2.2.2.2.2.2.2.1 x.2.2.2.2.2.2.2.2.2.1 x.2.2.2.2.2.2.2.2.2.2)])
 have BE := fun (V : World) (h : V.cell? ⟨w.heap.size, 0, none⟩ = some (.func (.func 36) #[] #[]) ∧ V.cell? ⟨w.heap.size + 1, 0, none⟩ = some (.string X) ∧ V.cell? ⟨w.heap.size + 1, 1, none⟩ = some (.string x.2.1) ∧ V.cell? ⟨w.heap.size + 1, 2, none⟩ = some (.int .i64 x.2.2.1) ∧ V.cell? ⟨w.heap.size + 1, 3, none⟩ = some (.slice x.2.2.2.1.1 x.2.2.2.1.2.1 x.2.2.2.1.2.2) ∧ V.cell? ⟨w.heap.size + 1, 4, none⟩ = some (.slice x.2.2.2.2.1.1 x.2.2.2.2.1.2.1 x.2.2.2.2.1.2.2) ∧ V.cell? ⟨w.heap.size + 1, 5, none⟩ = some (.slice x.2.2.2.2.2.1.1 x.2.2.2.2.2.1.2.1 x.2.2.2.2.2.1.2.2) ∧ V.cell? ⟨w.heap.size + 1, 6, none⟩ = some (.slice x.2.2.2.2.2.2.1.1 x.2.2.2.2.2.2.1.2.1 x.2.2.2.2.2.2.1.2.2) ∧ V.cell? ⟨w.heap.size + 1, 7, none⟩ = some (.slice x.2.2.2.2.2.2.2.1.1 x.2.2.2.2.2.2.2.1.2.1 x.2.2.2.2.2.2.2.1.2.2) ∧ V.cell? ⟨w.heap.size + 1, 8, none⟩ = some (.slice x.2.2.2.2.2.2.2.2.1 x.2.2.2.2.2.2.2.2.2.1 x.2.2.2.2.2.2.2.2.2.2) ∧ Below w3.heap.size w3 V) => AtF.be (w := w3) (l := [(⟨w.heap.size, 0, none⟩, .func (.func 36) #[] #[]), (⟨w.heap.size + 1, 0, none⟩, .string X), (⟨w.heap.size + 1, 1, none⟩, .string x.2.1), (⟨w.heap.size + 1, 2, none⟩, .int .i64 x.2.2.1), (⟨w.heap.size + 1, 3, none⟩, .slice x.2.2.2.1.1 x.2.2.2.1.2.1 x.2.2.2.1.2.2), (⟨w.heap.size + 1, 4, none⟩, .slice x.2.2.2.2.1.1 x.2.2.2.2.1.2.1 x.2.2.2.2.1.2.2), (⟨w.heap.size + 1, 5, none⟩, .slice x.2.2.2.2.2.1.1 x.2.2.2.2.2.1.2.1 x.2.2.2.2.2.1.2.2), (⟨w.heap.size + 1, 6, none⟩, .slice x.2.2.2.2.2.2.1.1 x.2.2.2.2.2.2.1.2.1 x.2.2.2.2.2.2.1.2.2), (⟨w.heap.size + 1, 7, none⟩, .slice x.2.2.2.2.2.2.2.1.1 x.2.2.2.2.2.2.2.1.2.1 x.2.2.2.2.2.2.2.1.2.2), (⟨w.heap.size + 1, 8, none⟩, .slice x.2.2.2.2.2.2.2.2.1 x.2.2.2.2.2.2.2.2.2.1 x.2.2.2.2.2.2.2.2.2.2)]) h
 go_region_held3 (fun V => V.cell? ⟨w.heap.size, 0, none⟩ = some (.func (.func 36) #[] #[]) ∧ V.cell? ⟨w.heap.size + 1, 0, none⟩ = some (.string X) ∧ V.cell? ⟨w.heap.size + 1, 1, none⟩ = some (.string x.2.1) ∧ V.cell? ⟨w.heap.size + 1, 2, none⟩ = some (.int .i64 x.2.2.1) ∧ V.cell? ⟨w.heap.size + 1, 3, none⟩ = some (.slice x.2.2.2.1.1 x.2.2.2.1.2.1 x.2.2.2.1.2.2) ∧ V.cell? ⟨w.heap.size + 1, 4, none⟩ = some (.slice x.2.2.2.2.1.1 x.2.2.2.2.1.2.1 x.2.2.2.2.1.2.2) ∧ V.cell? ⟨w.heap.size + 1, 5, none⟩ = some (.slice x.2.2.2.2.2.1.1 x.2.2.2.2.2.1.2.1 x.2.2.2.2.2.1.2.2) ∧ V.cell? ⟨w.heap.size + 1, 6, none⟩ = some (.slice x.2.2.2.2.2.2.1.1 x.2.2.2.2.2.2.1.2.1 x.2.2.2.2.2.2.1.2.2) ∧ V.cell? ⟨w.heap.size + 1, 7, none⟩ = some (.slice x.2.2.2.2.2.2.2.1.1 x.2.2.2.2.2.2.2.1.2.1 x.2.2.2.2.2.2.2.1.2.2) ∧ V.cell? ⟨w.heap.size + 1, 8, none⟩ = some (.slice x.2.2.2.2.2.2.2.2.1 x.2.2.2.2.2.2.2.2.2.1 x.2.2.2.2.2.2.2.2.2.2) ∧ Below w3.heap.size w3 V)
   (first | assumption | exact hs | exact KQ.out.dr _ hs | exact KQ.out.dr _ (by assumption) | exact KQ.out.on _ _ (by assumption) (by assumption) | exact KQ.out.al _ _ (by assumption) | exact KQ.out.ald _ _ (by assumption) | exact KQ.out.al _ _ hs | exact KQ.out.ald _ _ hs)
   (((first | (go_at_call 36; (with_reducible refine (PA _ _ _ _ _ _ _ _ _ _ _ _ _ _ _ _ _ _ _ _ _ _).mono ?_); rintro e w4 ⟨rfl, hb⟩) | (go_at_call 60; (with_reducible refine (KF _ (HB3.out.trans ((BE _ (by assumption)).mono hsz3))).mono ?_); rintro e w4 ⟨rfl, hb⟩))))
 all_goals
   rename_i hHeld
   obtain ⟨j1, e0, e1, e2, e3, e4, e5, e6, e7, e8, hB4⟩ := hHeld
   have HO4 := Lib.hid (OwnV.on HO3.out hB4)
   have HB4 := Lib.hid (HB3.out.trans (hB4.mono hsz3))
   have IX4 := IX _ HB4.out j1 e0 e1 e2 e3 e4 e5 e6 e7 e8
   have HXC := Lib.hid (fun W (hb : Below w4.heap.size w4 W) => And.intro ((hb.cell (World.block_lt_of_cell? w4 _ e0)).trans e0) (And.intro ((hb.cell (World.block_lt_of_cell? w4 _ e1)).trans e1) (And.intro ((hb.cell (World.block_lt_of_cell? w4 _ e2)).trans e2) (And.intro ((hb.cell (World.block_lt_of_cell? w4 _ e3)).trans e3) (And.intro ((hb.cell (World.block_lt_of_cell? w4 _ e4)).trans e4) (And.intro ((hb.cell (World.block_lt_of_cell? w4 _ e5)).trans e5) (And.intro ((hb.cell (World.block_lt_of_cell? w4 _ e6)).trans e6) (And.intro ((hb.cell (World.block_lt_of_cell? w4 _ e7)).trans e7) (((hb.cell (World.block_lt_of_cell? w4 _ e8)).trans e8))))))))))
   clear hB4 hs KF hB BE HBX HB2 IX e0 e1 e2 e3 e4 e5 e6 e7 e8 j1 k1
   rcases HW.out with ⟨hz, hm⟩ | ⟨q, hz, hm, hq⟩
   · subst hz hm
     go_wp2_with (first
       | (go_at_call 109; (with_reducible refine IX4.mono ?_); rintro e w5 ⟨rfl, hb⟩; have HB5 := Lib.hid (HB4.out.trans (hb.mono HB4.out.size)); have hz5 := HB5.out.size; have HO5 := Lib.hid (OwnV.on HO4.out hb); obtain ⟨e0, e1, e2, e3, e4, e5, e6, e7, e8⟩ := HXC.out _ hb; clear hb IX4)
       | (go_at_call 111; (with_reducible refine (INS.out _ _ _ HO5.out hz5).mono ?_); rintro e w6 ⟨v6, rfl, h1, h2⟩; have HH6 := Lib.hid h1.holds; have HB6 := Lib.hid (OwnV.below HB5.out HO5.out h2 (Nat.le_refl _) hz5); clear h1 h2))
     go_ret
     exact HP.out _ _ HH6.out HB6.out
   · subst hz hm
     have hq0 : (0 : Int) ≤ (m : Int) := by omega
     go_wp2_with (first
       | (go_at_call 109; (with_reducible refine IX4.mono ?_); rintro e w5 ⟨rfl, hb⟩; have HB5 := Lib.hid (HB4.out.trans (hb.mono HB4.out.size)); have hz5 := HB5.out.size; have HO5 := Lib.hid (OwnV.on HO4.out hb); obtain ⟨e0, e1, e2, e3, e4, e5, e6, e7, e8⟩ := HXC.out _ hb; clear hb IX4)
       | (go_at_call 111; (with_reducible refine (INS.out _ _ _ HO5.out hz5).mono ?_); rintro e w6 ⟨v6, rfl, h1, h2⟩; have HH6 := Lib.hid h1.holds; have HB6 := Lib.hid (OwnV.below HB5.out HO5.out h2 (Nat.le_refl _) hz5); clear h1 h2))
     go_ret
     exact HP.out _ _ HH6.out HB6.out
theorem kputO_anyUa (v : Value) (l : List OvUa) (hl : l.length ≤ 90000) (x : OvUa) (w : World) (h : HoldOUa w v l) : Calls Tryz.prog 58 #[v, kyOUa, aggOUa x] w (PutPostOUa l x w) := by
 cases hk0 : l.findIdx? (pathIsOUa x.1) with
 | none => exact kputO_newUa v l hl x w h hk0
 | some k0 => exact kputO_oldUa v l hl x w h k0 hk0
set_option maxRecDepth 100000 in
set_option maxHeartbeats 4000000 in
theorem putO_anyUa (v : Value) (l : List OvUa) (hl : l.length ≤ 90000) (x : OvUa) (w : World) (h : HoldOUa w v l) : Calls Tryz.prog 20 #[v, aggOUa x] w (PutPostOUa l x w) := by
 have B0 := (Below.refl w.heap.size w).alloc (Nat.le_refl _) (oXUa x)
 have I := kputO_anyUa v l hl x _ (HoldV.on h B0)
 have HB0 := Lib.hid B0
 obtain ⟨x0, x1, x2, x3, x4, x5, x6, x7, x8⟩ := boxV9Ua w (.string (bsT x.1)) (.string x.2.1) (.int .i64 x.2.2.1) (.slice x.2.2.2.1.1 x.2.2.2.1.2.1 x.2.2.2.1.2.2) (.slice x.2.2.2.2.1.1 x.2.2.2.2.1.2.1 x.2.2.2.2.1.2.2) (.slice x.2.2.2.2.2.1.1 x.2.2.2.2.2.1.2.1 x.2.2.2.2.2.1.2.2) (.slice x.2.2.2.2.2.2.1.1 x.2.2.2.2.2.2.1.2.1 x.2.2.2.2.2.2.1.2.2) (.slice x.2.2.2.2.2.2.2.1.1 x.2.2.2.2.2.2.2.1.2.1 x.2.2.2.2.2.2.2.1.2.2) (.slice x.2.2.2.2.2.2.2.2.1 x.2.2.2.2.2.2.2.2.2.1 x.2.2.2.2.2.2.2.2.2.2) 43
 have HP : Hid (∀ v w', HoldOUa w' v (putOUa l x) → Below w.heap.size w w' → PutPostOUa l x w (.returned v) w') := Lib.hid (fun v w' h1 h2 => ⟨v, rfl, h1, h2⟩)
 obtain ⟨a, c, b, o, rfl, -, -, -⟩ := h.parts
 unfold PutPostOUa kyOUa aggOUa at I
 unfold aggOUa
 clear h hl B0
 generalize l.length = n at *
 unfold oXUa at I HB0
 generalize bsT x.1 = X at *
 go_enter Tryz.func20, Tryz.ntmps20
 go_wp2_with (go_at_call 58; refine I.mono ?_; rintro e w1 ⟨v1, rfl, h1, hb⟩; have HO := Lib.hid h1; have HB := Lib.hid (HB0.out.trans (hb.mono HB0.out.size)); clear hb h1)
 go_ret
 exact HP.out _ _ HO.out HB.out
end Go.Proofs.YtnnagboeimeiiaaGreatDoor
