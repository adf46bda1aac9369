/-
  Alternatives, as rows of six cells: keyed.Put and Put; nothing old turns. Alternatives with one more, and without a name: lists, and what the program's and the reference's Put, Drop and Find return; nothing old turns.
-/
import Derived.Test.YtnfhccnicojdcaaGreatDoorZAPutP
import Derived.Test.YtnfhccnicojdcaaGreatDoorZAIns
import Derived.Test.YtnfhccnicojdcaaGreatDoorZKeyA
namespace Go.Proofs.YtnfhccnicojdcaaGreatDoor
open Go.RowKit
abbrev flatOZa (l : List OvZa) : List Value := (l.map cellsOZa).flatten
theorem flatO_setZa : ∀ (l : List OvZa) (k : Nat) (x : OvZa), k < l.length → flatOZa (l.set k x) = ((((((flatOZa l).set (k * 6) (.string (bsT x.1))).set (k * 6 + 1) (.string x.2.1)).set (k * 6 + 2) (.bool x.2.2.1)).set (k * 6 + 3) (.string x.2.2.2.1)).set (k * 6 + 4) (.slice x.2.2.2.2.1.1 x.2.2.2.2.1.2.1 x.2.2.2.2.1.2.2)).set (k * 6 + 5) (.slice x.2.2.2.2.2.1 x.2.2.2.2.2.2.1 x.2.2.2.2.2.2.2)
  | [], k, x, h => by simp at h
  | g :: l, 0, x, h => by simp [flatOZa]
  | g :: l, k + 1, x, h => by
    have := flatO_setZa l k x (by simpa using h)
    rw [List.set_cons_succ, show (k + 1) * 6 = k * 6 + 1 + 1 + 1 + 1 + 1 + 1 by omega, show k * 6 + 1 + 1 + 1 + 1 + 1 + 1 + 1 = k * 6 + 1 + 1 + 1 + 1 + 1 + 1 + 1 by omega, show k * 6 + 1 + 1 + 1 + 1 + 1 + 1 + 2 = k * 6 + 2 + 1 + 1 + 1 + 1 + 1 + 1 by omega, show k * 6 + 1 + 1 + 1 + 1 + 1 + 1 + 3 = k * 6 + 3 + 1 + 1 + 1 + 1 + 1 + 1 by omega, show k * 6 + 1 + 1 + 1 + 1 + 1 + 1 + 4 = k * 6 + 4 + 1 + 1 + 1 + 1 + 1 + 1 by omega, show k * 6 + 1 + 1 + 1 + 1 + 1 + 1 + 5 = k * 6 + 5 + 1 + 1 + 1 + 1 + 1 + 1 by omega]
    unfold flatOZa at this ⊢
    simp only [List.map_cons, List.flatten_cons, List.cons_append, List.nil_append, List.set_cons_succ]
    rw [this]
abbrev put4oZa (w : World) (g o : Nat) (x : OvZa) : World := (((((w.setCell ⟨g, o, none⟩ (.string (bsT x.1))).setCell ⟨g, o + 1, none⟩ (.string x.2.1)).setCell ⟨g, o + 2, none⟩ (.bool x.2.2.1)).setCell ⟨g, o + 3, none⟩ (.string x.2.2.2.1)).setCell ⟨g, o + 4, none⟩ (.slice x.2.2.2.2.1.1 x.2.2.2.2.1.2.1 x.2.2.2.2.1.2.2)).setCell ⟨g, o + 5, none⟩ (.slice x.2.2.2.2.2.1 x.2.2.2.2.2.2.1 x.2.2.2.2.2.2.2)
theorem flatO_lenZa (l : List OvZa) : (flatOZa l).length = l.length * 6 := by
  have := flat_len 6 (l.map cellsOZa) (cellsO_lenZa l)
  rwa [List.length_map] at this
theorem own_setOZa {w : World} {base g n c : Nat} {l : List OvZa} (h : OwnOZa w base (.slice (some ⟨g, 0, none⟩) n c) l) {k : Nat} (hk : k < l.length) (x : OvZa) :
    OwnOZa (put4oZa w g (k * 6) x) base (.slice (some ⟨g, 0, none⟩) n c) (l.set k x) ∧ w.grownBy (put4oZa w g (k * 6) x) (some g) := by
  have hl := h.2.1
  rw [List.length_map] at hl
  rcases h.2.2 with ⟨h0, _⟩ | ⟨g', c', cur, hv, hb, hg, hn, hm, hs, ht⟩
  · simp at h0
  · rw [List.length_map] at hv hn ht
    simp only [Value.slice.injEq, Option.some.injEq, Addr.mk.injEq, and_true] at hv
    obtain ⟨rfl, rfl, rfl⟩ := hv
    obtain ⟨C, hC⟩ : ∃ C, C = (((((cur.setIfInBounds (k * 6) (.string (bsT x.1))).setIfInBounds (k * 6 + 1) (.string x.2.1)).setIfInBounds (k * 6 + 2) (.bool x.2.2.1)).setIfInBounds (k * 6 + 3) (.string x.2.2.2.1)).setIfInBounds (k * 6 + 4) (.slice x.2.2.2.2.1.1 x.2.2.2.2.1.2.1 x.2.2.2.2.1.2.2)).setIfInBounds (k * 6 + 5) (.slice x.2.2.2.2.2.1 x.2.2.2.2.2.2.1 x.2.2.2.2.2.2.2) := ⟨_, rfl⟩
    have e : put4oZa w g (k * 6) x = w.setRow g C := by
      unfold put4oZa
      rw [setCell_eq_setRow w g (k * 6) cur _ (0, 0) _ hg]
      have h1 := setRow_heap w g cur (cur.setIfInBounds (k * 6) (.string (bsT x.1))) _ _ hg
      rw [setCell_eq_setRow _ g (k * 6 + 1) _ _ (0, 0) _ h1]
      have h2 := setRow_heap _ g _ ((cur.setIfInBounds (k * 6) (.string (bsT x.1))).setIfInBounds (k * 6 + 1) (.string x.2.1)) _ _ h1
      rw [setCell_eq_setRow _ g (k * 6 + 2) _ _ (0, 0) _ h2]
      have h3 := setRow_heap _ g _ (((cur.setIfInBounds (k * 6) (.string (bsT x.1))).setIfInBounds (k * 6 + 1) (.string x.2.1)).setIfInBounds (k * 6 + 2) (.bool x.2.2.1)) _ _ h2
      rw [setCell_eq_setRow _ g (k * 6 + 3) _ _ (0, 0) _ h3]
      have h4 := setRow_heap _ g _ ((((cur.setIfInBounds (k * 6) (.string (bsT x.1))).setIfInBounds (k * 6 + 1) (.string x.2.1)).setIfInBounds (k * 6 + 2) (.bool x.2.2.1)).setIfInBounds (k * 6 + 3) (.string x.2.2.2.1)) _ _ h3
      rw [setCell_eq_setRow _ g (k * 6 + 4) _ _ (0, 0) _ h4]
      have h5 := setRow_heap _ g _ (((((cur.setIfInBounds (k * 6) (.string (bsT x.1))).setIfInBounds (k * 6 + 1) (.string x.2.1)).setIfInBounds (k * 6 + 2) (.bool x.2.2.1)).setIfInBounds (k * 6 + 3) (.string x.2.2.2.1)).setIfInBounds (k * 6 + 4) (.slice x.2.2.2.2.1.1 x.2.2.2.2.1.2.1 x.2.2.2.2.1.2.2)) _ _ h4
      rw [setCell_eq_setRow _ g (k * 6 + 5) _ _ (0, 0) _ h5]
      rw [setRow_setRow, setRow_setRow, setRow_setRow, setRow_setRow, setRow_setRow, hC]
    rw [e]
    refine ⟨⟨cellsO_lenZa _, ?_⟩, ⟨rfl, rfl, rfl, by simp, fun j hj hne => setRow_other w g j C (fun e => hne (by rw [e]))⟩⟩
    rw [List.length_map, List.length_set]
    refine ⟨by have := flatO_lenZa (l.set k x); rw [List.length_set] at this; exact this, .inr ⟨g, c, C, rfl, hb, setRow_heap w g cur C _ _ hg, hn, hm, by rw [hC]; simp [hs], ?_⟩⟩
    have := flatO_setZa l k x hk
    unfold flatOZa at this
    rw [this, ← ht, hC]
    simp only [Array.toList_setIfInBounds, List.take_set]
theorem formOZa {w : World} {base : Nat} {v : Value} {l : List OvZa} (h : OwnOZa w base v l) (h0 : 0 < l.length) : ∃ g c, v = .slice (some ⟨g, 0, none⟩) l.length c := by
  rcases h.2.2 with ⟨_, h1⟩ | ⟨g, c, cur, hv, _⟩
  · rw [List.length_map] at h1; omega
  · rw [List.length_map] at hv; exact ⟨g, c, hv⟩
theorem cellsAtOZa {w : World} {base g n c : Nat} {l : List OvZa} (h : OwnOZa w base (.slice (some ⟨g, 0, none⟩) n c) l) {k : Nat} (hk : k < l.length) : (∀ j, w.frozen? ⟨g, j, none⟩ = false) ∧ ∃ a b1 b2 b3 b4a b4n b4c b5a b5n b5c, w.cell? ⟨g, k * 6, none⟩ = some (.string a) ∧ w.cell? ⟨g, k * 6 + 1, none⟩ = some (.string b1) ∧ w.cell? ⟨g, k * 6 + 2, none⟩ = some (.bool b2) ∧ w.cell? ⟨g, k * 6 + 3, none⟩ = some (.string b3) ∧ w.cell? ⟨g, k * 6 + 4, none⟩ = some (.slice b4a b4n b4c) ∧ w.cell? ⟨g, k * 6 + 5, none⟩ = some (.slice b5a b5n b5c) := by
  obtain ⟨a, c', b, o, e, hc, ha, hcell⟩ := HoldOZa.parts h.holds
  simp only [Value.slice.injEq] at e
  obtain ⟨rfl, rfl, rfl⟩ := e
  obtain ⟨ea, _⟩ := ha (by omega)
  cases ea
  obtain ⟨x, hx⟩ : ∃ x, l[k]? = some x := ⟨_, List.getElem?_eq_getElem hk⟩
  obtain ⟨c0, c1, c2, c3, c4, c5⟩ := hcell k x hx
  rw [Nat.zero_add] at c0 c1 c2 c3 c4 c5
  refine ⟨fun j => ?_, _, _, _, _, _, _, _, _, _, _, c0, c1, c2, c3, c4, c5⟩
  rcases h.2.2 with ⟨h0, _⟩ | ⟨g', c', cur, hv, hb, hg, _⟩
  · simp at h0
  · simp only [Value.slice.injEq, Option.some.injEq, Addr.mk.injEq] at hv
    obtain ⟨⟨rfl, _⟩, _⟩ := hv
    simp [World.frozen?, hg]
abbrev oXZa (x : OvZa) : Obj := .cells #[.string (bsT x.1), .string x.2.1, .bool x.2.2.1, .string x.2.2.2.1, .slice x.2.2.2.2.1.1 x.2.2.2.2.1.2.1 x.2.2.2.2.1.2.2, .slice x.2.2.2.2.2.1 x.2.2.2.2.2.2.1 x.2.2.2.2.2.2.2] 26
abbrev oKZa : Obj := .cells #[kyOZa] 67
/-- The boxes of the key and of the element, in a world that is built upon them. -/
theorem boxesOZa {w W : World} {x : OvZa} (hb : Below ((w.alloc oKZa).alloc (oXZa x)).heap.size ((w.alloc oKZa).alloc (oXZa x)) W) :
    Below w.heap.size w W ∧ W.cell? ⟨w.heap.size, 0, none⟩ = some kyOZa ∧ W.cell? ⟨w.heap.size + 1, 0, none⟩ = some (.string (bsT x.1)) ∧ W.cell? ⟨w.heap.size + 1, 1, none⟩ = some (.string x.2.1) ∧ W.cell? ⟨w.heap.size + 1, 2, none⟩ = some (.bool x.2.2.1) ∧ W.cell? ⟨w.heap.size + 1, 3, none⟩ = some (.string x.2.2.2.1) ∧ W.cell? ⟨w.heap.size + 1, 4, none⟩ = some (.slice x.2.2.2.2.1.1 x.2.2.2.2.1.2.1 x.2.2.2.2.1.2.2) ∧ W.cell? ⟨w.heap.size + 1, 5, none⟩ = some (.slice x.2.2.2.2.2.1 x.2.2.2.2.2.2.1 x.2.2.2.2.2.2.2) := by
  have B1 := (Below.refl w.heap.size w).alloc (Nat.le_refl _) oKZa
  have B2 := B1.alloc B1.size (oXZa x)
  have q1 := (Boxed.new w 67 kyOZa).alloc (oXZa x)
  obtain ⟨x0, x1, x2, x3, x4, x5⟩ := box6_onZa hb
  rw [World.size_alloc] at x0 x1 x2 x3 x4 x5
  exact ⟨B2.trans (hb.mono B2.size), (hb.cell q1.lt).trans q1.cell, x0, x1, x2, x3, x4, x5⟩
set_option maxRecDepth 100000 in
set_option maxHeartbeats 8000000 in
theorem kputO_oldZa (v : Value) (l : List OvZa) (hl : l.length ≤ 90000) (x : OvZa) (w : World) (h : HoldOZa w v l) (k0 : Nat) (hk0 : l.findIdx? (pathIsOZa x.1) = some k0) : Calls Tryz.prog 46 #[v, kyOZa, aggOZa x] w (PutPostOZa l x w) := by
  have hi0 : idxOZa l (pathIsOZa x.1) = (k0 : Int) := by unfold idxOZa; rw [hk0]
  have hP : putOZa l x = l.set k0 x := by unfold putOZa; rw [hk0]
  have hkl : k0 < l.length := (List.findIdx?_eq_some_iff_getElem.1 hk0).1
  have HP : Hid (∀ v w', HoldOZa w' v (l.set k0 x) → Below w.heap.size w w' → PutPostOZa l x w (.returned v) w') := Lib.hid (fun v w' h1 h2 => ⟨v, rfl, by rw [hP]; exact h1, h2⟩)
  have HSET := Lib.hid (fun (W : World) (base g n c : Nat) (h : OwnOZa W base (.slice (some ⟨g, 0, none⟩) n c) l) => own_setOZa h hkl x)
  have HFORM := Lib.hid (fun (W : World) (base : Nat) (u : Value) (h : OwnOZa W base u l) => formOZa h (by omega))
  have HCELL := Lib.hid (fun (W : World) (base g n c : Nat) (h : OwnOZa W base (.slice (some ⟨g, 0, none⟩) n c) l) => cellsAtOZa h hkl)
  obtain ⟨B2, -⟩ := boxesOZa (x := x) (Below.refl ((w.alloc oKZa).alloc (oXZa x)).heap.size ((w.alloc oKZa).alloc (oXZa x)))
  have HBX := Lib.hid (fun W (hb : Below ((w.alloc oKZa).alloc (oXZa x)).heap.size ((w.alloc oKZa).alloc (oXZa x)) W) => boxesOZa hb)
  have CA := cloneO_anyZa v l hl ((w.alloc oKZa).alloc (oXZa x)) (HoldV.on h B2)
  have KF := fun W (hb : Below w.heap.size w W) => kfindO_anyZa v l hl (bsT x.1) W (HoldV.on h hb)
  have PA := fun X p1 p2 p3 p4a p4n p4c p5a p5n p5c w => pathOf_anyZa X p1 p2 p3 p4a p4n p4c p5a p5n p5c w
  rw [bytesOf, hi0] at KF
  unfold kyOZa at KF ⊢
  unfold aggOZa
  have HB2 := Lib.hid B2
  obtain ⟨a, c, b, o, rfl, -, -, -⟩ := h.parts
  clear B2 h hk0 hi0 hP
  obtain ⟨X, hX⟩ : ∃ X, bsT x.1 = X := ⟨_, rfl⟩
  unfold oXZa oKZa kyOZa at CA HBX HB2
  rw [hX] at KF ⊢
  simp only [hX] at CA HBX HB2
  have HXX := Lib.hid hX
  clear hX
  generalize l.length = n at *
  go_enter Tryz.func46, Tryz.ntmps46
  go_wp2_with (go_at_call 74; refine CA.mono ?_; rintro e w3 ⟨v3, rfl, ho, hb⟩; have HO3 := Lib.hid ho; obtain ⟨g, cg, rfl⟩ := HFORM.out _ _ _ ho; have hbx := HBX.out _ hb; have HB3 := Lib.hid hbx.1; have hcx := hbx.2; clear ho hb hbx)
  have hsz3 := HB3.out.size
  obtain ⟨k1, e0, e1, e2, e3, e4, e5⟩ := hcx
  have hs := And.intro k1 (And.intro e0 (And.intro e1 (And.intro e2 (And.intro e3 (And.intro e4 (And.intro e5 (Below.refl w3.heap.size w3)))))))
  have hB := Below.refl w3.heap.size w3
  clear CA
  have BE := fun (V : World) (h : V.cell? ⟨w.heap.size, 0, none⟩ = some (.func (.func 41) #[] #[]) ∧ V.cell? ⟨w.heap.size + 1, 0, none⟩ = some (.string X) ∧ V.cell? ⟨w.heap.size + 1, 1, none⟩ = some (.string x.2.1) ∧ V.cell? ⟨w.heap.size + 1, 2, none⟩ = some (.bool x.2.2.1) ∧ V.cell? ⟨w.heap.size + 1, 3, none⟩ = some (.string x.2.2.2.1) ∧ V.cell? ⟨w.heap.size + 1, 4, none⟩ = some (.slice x.2.2.2.2.1.1 x.2.2.2.2.1.2.1 x.2.2.2.2.1.2.2) ∧ V.cell? ⟨w.heap.size + 1, 5, none⟩ = some (.slice x.2.2.2.2.2.1 x.2.2.2.2.2.2.1 x.2.2.2.2.2.2.2) ∧ Below w3.heap.size w3 V) => AtF.be (w := w3) (l := [(⟨w.heap.size, 0, none⟩, .func (.func 41) #[] #[]), (⟨w.heap.size + 1, 0, none⟩, .string X), (⟨w.heap.size + 1, 1, none⟩, .string x.2.1), (⟨w.heap.size + 1, 2, none⟩, .bool x.2.2.1), (⟨w.heap.size + 1, 3, none⟩, .string x.2.2.2.1), (⟨w.heap.size + 1, 4, none⟩, .slice x.2.2.2.2.1.1 x.2.2.2.2.1.2.1 x.2.2.2.2.1.2.2), (⟨w.heap.size + 1, 5, none⟩, .slice x.2.2.2.2.2.1 x.2.2.2.2.2.2.1 x.2.2.2.2.2.2.2)]) h
  go_region_held3 (fun V => V.cell? ⟨w.heap.size, 0, none⟩ = some (.func (.func 41) #[] #[]) ∧ V.cell? ⟨w.heap.size + 1, 0, none⟩ = some (.string X) ∧ V.cell? ⟨w.heap.size + 1, 1, none⟩ = some (.string x.2.1) ∧ V.cell? ⟨w.heap.size + 1, 2, none⟩ = some (.bool x.2.2.1) ∧ V.cell? ⟨w.heap.size + 1, 3, none⟩ = some (.string x.2.2.2.1) ∧ V.cell? ⟨w.heap.size + 1, 4, none⟩ = some (.slice x.2.2.2.2.1.1 x.2.2.2.2.1.2.1 x.2.2.2.2.1.2.2) ∧ V.cell? ⟨w.heap.size + 1, 5, none⟩ = some (.slice x.2.2.2.2.2.1 x.2.2.2.2.2.2.1 x.2.2.2.2.2.2.2) ∧ Below w3.heap.size w3 V)
    (first | assumption | exact hs | exact AtF.dr (w := w3) (l := [(⟨w.heap.size, 0, none⟩, .func (.func 41) #[] #[]), (⟨w.heap.size + 1, 0, none⟩, .string X), (⟨w.heap.size + 1, 1, none⟩, .string x.2.1), (⟨w.heap.size + 1, 2, none⟩, .bool x.2.2.1), (⟨w.heap.size + 1, 3, none⟩, .string x.2.2.2.1), (⟨w.heap.size + 1, 4, none⟩, .slice x.2.2.2.2.1.1 x.2.2.2.2.1.2.1 x.2.2.2.2.1.2.2), (⟨w.heap.size + 1, 5, none⟩, .slice x.2.2.2.2.2.1 x.2.2.2.2.2.2.1 x.2.2.2.2.2.2.2)]) hs | exact AtF.dr (w := w3) (l := [(⟨w.heap.size, 0, none⟩, .func (.func 41) #[] #[]), (⟨w.heap.size + 1, 0, none⟩, .string X), (⟨w.heap.size + 1, 1, none⟩, .string x.2.1), (⟨w.heap.size + 1, 2, none⟩, .bool x.2.2.1), (⟨w.heap.size + 1, 3, none⟩, .string x.2.2.2.1), (⟨w.heap.size + 1, 4, none⟩, .slice x.2.2.2.2.1.1 x.2.2.2.2.1.2.1 x.2.2.2.2.1.2.2), (⟨w.heap.size + 1, 5, none⟩, .slice x.2.2.2.2.2.1 x.2.2.2.2.2.2.1 x.2.2.2.2.2.2.2)]) (by assumption) | exact AtF.on (w := w3) (l := [(⟨w.heap.size, 0, none⟩, .func (.func 41) #[] #[]), (⟨w.heap.size + 1, 0, none⟩, .string X), (⟨w.heap.size + 1, 1, none⟩, .string x.2.1), (⟨w.heap.size + 1, 2, none⟩, .bool x.2.2.1), (⟨w.heap.size + 1, 3, none⟩, .string x.2.2.2.1), (⟨w.heap.size + 1, 4, none⟩, .slice x.2.2.2.2.1.1 x.2.2.2.2.1.2.1 x.2.2.2.2.1.2.2), (⟨w.heap.size + 1, 5, none⟩, .slice x.2.2.2.2.2.1 x.2.2.2.2.2.2.1 x.2.2.2.2.2.2.2)]) (by assumption) (by assumption) | exact AtF.al (w := w3) (l := [(⟨w.heap.size, 0, none⟩, .func (.func 41) #[] #[]), (⟨w.heap.size + 1, 0, none⟩, .string X), (⟨w.heap.size + 1, 1, none⟩, .string x.2.1), (⟨w.heap.size + 1, 2, none⟩, .bool x.2.2.1), (⟨w.heap.size + 1, 3, none⟩, .string x.2.2.2.1), (⟨w.heap.size + 1, 4, none⟩, .slice x.2.2.2.2.1.1 x.2.2.2.2.1.2.1 x.2.2.2.2.1.2.2), (⟨w.heap.size + 1, 5, none⟩, .slice x.2.2.2.2.2.1 x.2.2.2.2.2.2.1 x.2.2.2.2.2.2.2)]) (by assumption) _ | exact AtF.ald (w := w3) (l := [(⟨w.heap.size, 0, none⟩, .func (.func 41) #[] #[]), (⟨w.heap.size + 1, 0, none⟩, .string X), (⟨w.heap.size + 1, 1, none⟩, .string x.2.1), (⟨w.heap.size + 1, 2, none⟩, .bool x.2.2.1), (⟨w.heap.size + 1, 3, none⟩, .string x.2.2.2.1), (⟨w.heap.size + 1, 4, none⟩, .slice x.2.2.2.2.1.1 x.2.2.2.2.1.2.1 x.2.2.2.2.1.2.2), (⟨w.heap.size + 1, 5, none⟩, .slice x.2.2.2.2.2.1 x.2.2.2.2.2.2.1 x.2.2.2.2.2.2.2)]) (by assumption) _ | exact AtF.al (w := w3) (l := [(⟨w.heap.size, 0, none⟩, .func (.func 41) #[] #[]), (⟨w.heap.size + 1, 0, none⟩, .string X), (⟨w.heap.size + 1, 1, none⟩, .string x.2.1), (⟨w.heap.size + 1, 2, none⟩, .bool x.2.2.1), (⟨w.heap.size + 1, 3, none⟩, .string x.2.2.2.1), (⟨w.heap.size + 1, 4, none⟩, .slice x.2.2.2.2.1.1 x.2.2.2.2.1.2.1 x.2.2.2.2.1.2.2), (⟨w.heap.size + 1, 5, none⟩, .slice x.2.2.2.2.2.1 x.2.2.2.2.2.2.1 x.2.2.2.2.2.2.2)]) hs _ | exact AtF.ald (w := w3) (l := [(⟨w.heap.size, 0, none⟩, .func (.func 41) #[] #[]), (⟨w.heap.size + 1, 0, none⟩, .string X), (⟨w.heap.size + 1, 1, none⟩, .string x.2.1), (⟨w.heap.size + 1, 2, none⟩, .bool x.2.2.1), (⟨w.heap.size + 1, 3, none⟩, .string x.2.2.2.1), (⟨w.heap.size + 1, 4, none⟩, .slice x.2.2.2.2.1.1 x.2.2.2.2.1.2.1 x.2.2.2.2.1.2.2), (⟨w.heap.size + 1, 5, none⟩, .slice x.2.2.2.2.2.1 x.2.2.2.2.2.2.1 x.2.2.2.2.2.2.2)]) hs _)
    (((first | (go_at_call 41; (with_reducible refine (PA _ _ _ _ _ _ _ _ _ _ _).mono ?_); rintro e w4 ⟨rfl, hb⟩) | (go_at_call 48; (with_reducible refine (KF _ (HB3.out.trans ((BE _ (by assumption)).mono hsz3))).mono ?_); rintro e w4 ⟨rfl, hb⟩))))
  all_goals
    rename_i hHeld
    obtain ⟨-, e0, e1, e2, e3, e4, e5, hB4⟩ := hHeld
    have HO4 := Lib.hid (OwnV.on HO3.out hB4)
    have HB4 := Lib.hid (HB3.out.trans (hB4.mono hsz3))
    obtain ⟨fz, d0, d_b1, d_b2, d_b3, d_b4a, d_b4n, d_b4c, d_b5a, d_b5n, d_b5c, r0, r1, r2, r3, r4, r5⟩ := HCELL.out _ _ _ _ _ HO4.out
    have f0 := fz (k0 * 6)
    have f1 := fz (k0 * 6 + 1)
    have f2 := fz (k0 * 6 + 2)
    have f3 := fz (k0 * 6 + 3)
    have f4 := fz (k0 * 6 + 4)
    have f5 := fz (k0 * 6 + 5)
    have hS := Lib.hid (HSET.out _ _ _ _ _ HO4.out)
    have hlt := (World.ownsRow.lt HO4.out.2 g rfl)
    have hgw : w.heap.size ≤ g := by have := hlt.1; simp only [World.size_alloc] at this; omega
    have hk1 : (0 : Int) ≤ (k0 : Int) := by omega
    clear hB4 hs fz HSET HCELL HFORM KF hB BE hlt HBX HB2
    go_wp2
    go_ret
    exact HP.out _ _ (by have := hS.out.1.holds; unfold put4oZa at this; rw [HXX.out] at this; exact this) (by have := HB4.out.grown hS.out.2 HB4.out.size (fun k hk => by cases hk; exact hgw); unfold put4oZa at this; rw [HXX.out] at this; exact this)
theorem oversO_noneZa {l : List OvZa} {p : Bs} : idxOZa l (overOZa p) = -1 ∧ cutPOZa l p = l.length ∨ ∃ k : Nat, idxOZa l (overOZa p) = k ∧ cutPOZa l p = k ∧ k < l.length := by
  unfold idxOZa cutPOZa
  cases h : l.findIdx? (overOZa p) with
  | none => exact .inl ⟨rfl, rfl⟩
  | some k => exact .inr ⟨k, rfl, rfl, (List.findIdx?_eq_some_iff_getElem.1 h).1⟩
theorem own_neVZa {T : TypeId} {k : Nat} {w : World} {base : Nat} {v : Value} {rows : List Rw} (h : OwnV T k w base v rows) : v.ownBlock ≠ some w.heap.size := fun e => by have := (World.ownsRow.lt h.2 _ e).2; omega
theorem flat_cutZa (k : Nat) : ∀ (rows : List Rw) (i : Nat), (∀ r ∈ rows, r.length = k) → rows.flatten.take (i * k) = (rows.take i).flatten ∧ rows.flatten.drop (i * k) = (rows.drop i).flatten
  | [], i, _ => by simp
  | r :: rows, 0, _ => by simp
  | r :: rows, i + 1, h => by
    have hr : r.length = k := h r (by simp)
    obtain ⟨h1, h2⟩ := flat_cutZa k rows i (fun q hq => h q (by simp [hq]))
    have e : (i + 1) * k = r.length + i * k := by rw [hr, Nat.add_mul]; omega
    rw [List.flatten_cons, e]
    refine ⟨?_, ?_⟩
    · rw [List.take_append, List.take_of_length_le (by omega), Nat.add_sub_cancel_left, h1]; simp
    · rw [List.drop_append, List.drop_of_length_le (by omega), Nat.add_sub_cancel_left, h2]; simp
theorem ins_ovZa (base : Nat) (v : Value) (cur : List OvZa) (x : OvZa) (i : Nat) (hi : i ≤ cur.length) (hl : cur.length ≤ 90000) (w2 : World) (h : OwnOZa w2 base v cur) (hbase : base ≤ w2.heap.size) :
    Calls Tryz.prog 77 #[v, .int .i64 i, .slice (some ⟨w2.heap.size, 0, none⟩) 1 1] (w2.alloc (oXZa x)) fun e w' =>
      ∃ v', e = .returned v' ∧ OwnOZa w' base v' (cur.take i ++ x :: cur.drop i) ∧ (w2.alloc (oXZa x)).grownBy w' v.ownBlock := by
  have hO := World.ownsRow.alloc h.2 (oXZa x)
  rw [List.length_map] at hO
  refine (insert_ownZa base cur.length v (cur.map cellsOZa).flatten (cellsOZa x) _ hO (OwnOZa.one cur) i hi hl w2.heap.size 26 rfl (World.alloc_heap_new w2 _) (fun u hu => by simp at hu; rcases hu with rfl | rfl | rfl | rfl | rfl | rfl <;> rfl) (own_neVZa h) (by simp; omega)).mono ?_
  rintro e w' ⟨v', rfl, ho, hg⟩
  refine ⟨v', rfl, ⟨cellsO_lenZa _, ?_⟩, hg⟩
  obtain ⟨h1, h2⟩ := flat_cutZa 6 (cur.map cellsOZa) i (cellsO_lenZa cur)
  rw [h1, h2] at ho
  have e1 : ((cur.take i ++ x :: cur.drop i).map cellsOZa).flatten = ((cur.map cellsOZa).take i).flatten ++ cellsOZa x ++ ((cur.map cellsOZa).drop i).flatten := by
    rw [List.map_append, List.map_cons, List.flatten_append, List.flatten_cons, List.map_take, List.map_drop]; simp
  have e2 : ((cur.take i ++ x :: cur.drop i).map cellsOZa).length = cur.length + 1 := by simp; omega
  rw [e1, e2]; exact ho
set_option maxRecDepth 100000 in
set_option maxHeartbeats 8000000 in
theorem kputO_newZa (v : Value) (l : List OvZa) (hl : l.length ≤ 90000) (x : OvZa) (w : World) (h : HoldOZa w v l) (hk0 : l.findIdx? (pathIsOZa x.1) = none) : Calls Tryz.prog 46 #[v, kyOZa, aggOZa x] w (PutPostOZa l x w) := by
  have hi0 : idxOZa l (pathIsOZa x.1) = -1 := by unfold idxOZa; rw [hk0]
  have hP : putOZa l x = l.take (cutPOZa l x.1) ++ x :: l.drop (cutPOZa l x.1) := by unfold putOZa; rw [hk0]
  obtain ⟨m, hm⟩ : ∃ m, cutPOZa l x.1 = m := ⟨_, rfl⟩
  have hml : m ≤ l.length := by
    rcases oversO_noneZa (l := l) (p := x.1) with ⟨-, h2⟩ | ⟨k, -, h2, h3⟩ <;> omega
  have HP : Hid (∀ v w', HoldOZa w' v (l.take m ++ x :: l.drop m) → Below w.heap.size w w' → PutPostOZa l x w (.returned v) w') := Lib.hid (fun v w' h1 h2 => ⟨v, rfl, by rw [hP, hm]; exact h1, h2⟩)
  have HW : Hid (idxOZa l (overOZa x.1) = -1 ∧ m = l.length ∨ ∃ k : Nat, idxOZa l (overOZa x.1) = k ∧ m = k ∧ k < l.length) := Lib.hid (by rw [← hm]; exact oversO_noneZa)
  obtain ⟨B2, -⟩ := boxesOZa (x := x) (Below.refl ((w.alloc oKZa).alloc (oXZa x)).heap.size ((w.alloc oKZa).alloc (oXZa x)))
  have HBX := Lib.hid (fun W (hb : Below ((w.alloc oKZa).alloc (oXZa x)).heap.size ((w.alloc oKZa).alloc (oXZa x)) W) => boxesOZa hb)
  have CA := cloneO_anyZa v l hl ((w.alloc oKZa).alloc (oXZa x)) (HoldV.on h B2)
  have KF := fun W (hb : Below w.heap.size w W) => kfindO_anyZa v l hl (bsT x.1) W (HoldV.on h hb)
  have IX := fun W (hb : Below w.heap.size w W) (h1 : W.cell? ⟨w.heap.size, 0, none⟩ = some kyOZa) (g0 : W.cell? ⟨w.heap.size + 1, 0, none⟩ = some (.string (bsT x.1))) (g1 : W.cell? ⟨w.heap.size + 1, 1, none⟩ = some (.string x.2.1)) (g2 : W.cell? ⟨w.heap.size + 1, 2, none⟩ = some (.bool x.2.2.1)) (g3 : W.cell? ⟨w.heap.size + 1, 3, none⟩ = some (.string x.2.2.2.1)) (g4 : W.cell? ⟨w.heap.size + 1, 4, none⟩ = some (.slice x.2.2.2.2.1.1 x.2.2.2.2.1.2.1 x.2.2.2.2.1.2.2)) (g5 : W.cell? ⟨w.heap.size + 1, 5, none⟩ = some (.slice x.2.2.2.2.2.1 x.2.2.2.2.2.2.1 x.2.2.2.2.2.2.2)) =>
    idxO_anyZa 76 #[.pointer (some ⟨w.heap.size, 0, none⟩), .pointer (some ⟨w.heap.size + 1, 0, none⟩)] (enters_of Tryz.func76 (by kernel_rfl) rfl) (overOZa (bsT x.1).data.toList) v l hl W (HoldV.on h hb)
      (fun W2 y hb2 => putpO_anyZa w.heap.size (w.heap.size + 1) (bsT x.1) x.2.1 x.2.2.1 x.2.2.2.1 x.2.2.2.2.1.1 x.2.2.2.2.1.2.1 x.2.2.2.2.1.2.2 x.2.2.2.2.2.1 x.2.2.2.2.2.2.1 x.2.2.2.2.2.2.2 y W2 ((hb2.cell (World.block_lt_of_cell? W _ h1)).trans h1) ((hb2.cell (World.block_lt_of_cell? W _ g0)).trans g0) ((hb2.cell (World.block_lt_of_cell? W _ g1)).trans g1) ((hb2.cell (World.block_lt_of_cell? W _ g2)).trans g2) ((hb2.cell (World.block_lt_of_cell? W _ g3)).trans g3) ((hb2.cell (World.block_lt_of_cell? W _ g4)).trans g4) ((hb2.cell (World.block_lt_of_cell? W _ g5)).trans g5))
  have INS := Lib.hid (fun (base : Nat) (u : Value) (W : World) (ho : OwnOZa W base u l) (hbase : base ≤ W.heap.size) => ins_ovZa base u l x m hml hl W ho hbase)
  have PA := fun X p1 p2 p3 p4a p4n p4c p5a p5n p5c w => pathOf_anyZa X p1 p2 p3 p4a p4n p4c p5a p5n p5c w
  rw [bytesOf, hi0] at KF
  rw [bytesOf] at IX
  unfold kyOZa at KF IX ⊢
  unfold aggOZa
  have HB2 := Lib.hid B2
  obtain ⟨a, c, b, o, rfl, -, -, -⟩ := h.parts
  clear B2 h hk0 hi0 hP hm
  generalize idxOZa l (overOZa x.1) = z at *
  obtain ⟨X, hX⟩ : ∃ X, bsT x.1 = X := ⟨_, rfl⟩
  unfold oXZa oKZa kyOZa at CA HBX HB2
  unfold oXZa at INS
  rw [hX] at KF ⊢
  simp only [hX] at CA HBX HB2 IX INS
  clear hX
  generalize l.length = n at *
  go_enter Tryz.func46, Tryz.ntmps46
  go_wp2_with (go_at_call 74; refine CA.mono ?_; rintro e w3 ⟨v3, rfl, ho, hb⟩; have hbx := HBX.out _ hb; have HB3 := Lib.hid hbx.1; have HO3 := Lib.hid (OwnV.mono (B := w.heap.size) ho (by simp only [World.size_alloc]; omega)); have hcx := hbx.2; clear ho hb hbx)
  have hsz3 := HB3.out.size
  obtain ⟨k1, e0, e1, e2, e3, e4, e5⟩ := hcx
  have hs := And.intro k1 (And.intro e0 (And.intro e1 (And.intro e2 (And.intro e3 (And.intro e4 (And.intro e5 (Below.refl w3.heap.size w3)))))))
  have hB := Below.refl w3.heap.size w3
  clear CA
  have BE := fun (V : World) (h : V.cell? ⟨w.heap.size, 0, none⟩ = some (.func (.func 41) #[] #[]) ∧ V.cell? ⟨w.heap.size + 1, 0, none⟩ = some (.string X) ∧ V.cell? ⟨w.heap.size + 1, 1, none⟩ = some (.string x.2.1) ∧ V.cell? ⟨w.heap.size + 1, 2, none⟩ = some (.bool x.2.2.1) ∧ V.cell? ⟨w.heap.size + 1, 3, none⟩ = some (.string x.2.2.2.1) ∧ V.cell? ⟨w.heap.size + 1, 4, none⟩ = some (.slice x.2.2.2.2.1.1 x.2.2.2.2.1.2.1 x.2.2.2.2.1.2.2) ∧ V.cell? ⟨w.heap.size + 1, 5, none⟩ = some (.slice x.2.2.2.2.2.1 x.2.2.2.2.2.2.1 x.2.2.2.2.2.2.2) ∧ Below w3.heap.size w3 V) => AtF.be (w := w3) (l := [(⟨w.heap.size, 0, none⟩, .func (.func 41) #[] #[]), (⟨w.heap.size + 1, 0, none⟩, .string X), (⟨w.heap.size + 1, 1, none⟩, .string x.2.1), (⟨w.heap.size + 1, 2, none⟩, .bool x.2.2.1), (⟨w.heap.size + 1, 3, none⟩, .string x.2.2.2.1), (⟨w.heap.size + 1, 4, none⟩, .slice x.2.2.2.2.1.1 x.2.2.2.2.1.2.1 x.2.2.2.2.1.2.2), (⟨w.heap.size + 1, 5, none⟩, .slice x.2.2.2.2.2.1 x.2.2.2.2.2.2.1 x.2.2.2.2.2.2.2)]) h
  go_region_held3 (fun V => V.cell? ⟨w.heap.size, 0, none⟩ = some (.func (.func 41) #[] #[]) ∧ V.cell? ⟨w.heap.size + 1, 0, none⟩ = some (.string X) ∧ V.cell? ⟨w.heap.size + 1, 1, none⟩ = some (.string x.2.1) ∧ V.cell? ⟨w.heap.size + 1, 2, none⟩ = some (.bool x.2.2.1) ∧ V.cell? ⟨w.heap.size + 1, 3, none⟩ = some (.string x.2.2.2.1) ∧ V.cell? ⟨w.heap.size + 1, 4, none⟩ = some (.slice x.2.2.2.2.1.1 x.2.2.2.2.1.2.1 x.2.2.2.2.1.2.2) ∧ V.cell? ⟨w.heap.size + 1, 5, none⟩ = some (.slice x.2.2.2.2.2.1 x.2.2.2.2.2.2.1 x.2.2.2.2.2.2.2) ∧ Below w3.heap.size w3 V)
    (first | assumption | exact hs | exact AtF.dr (w := w3) (l := [(⟨w.heap.size, 0, none⟩, .func (.func 41) #[] #[]), (⟨w.heap.size + 1, 0, none⟩, .string X), (⟨w.heap.size + 1, 1, none⟩, .string x.2.1), (⟨w.heap.size + 1, 2, none⟩, .bool x.2.2.1), (⟨w.heap.size + 1, 3, none⟩, .string x.2.2.2.1), (⟨w.heap.size + 1, 4, none⟩, .slice x.2.2.2.2.1.1 x.2.2.2.2.1.2.1 x.2.2.2.2.1.2.2), (⟨w.heap.size + 1, 5, none⟩, .slice x.2.2.2.2.2.1 x.2.2.2.2.2.2.1 x.2.2.2.2.2.2.2)]) hs | exact AtF.dr (w := w3) (l := [(⟨w.heap.size, 0, none⟩, .func (.func 41) #[] #[]), (⟨w.heap.size + 1, 0, none⟩, .string X), (⟨w.heap.size + 1, 1, none⟩, .string x.2.1), (⟨w.heap.size + 1, 2, none⟩, .bool x.2.2.1), (⟨w.heap.size + 1, 3, none⟩, .string x.2.2.2.1), (⟨w.heap.size + 1, 4, none⟩, .slice x.2.2.2.2.1.1 x.2.2.2.2.1.2.1 x.2.2.2.2.1.2.2), (⟨w.heap.size + 1, 5, none⟩, .slice x.2.2.2.2.2.1 x.2.2.2.2.2.2.1 x.2.2.2.2.2.2.2)]) (by assumption) | exact AtF.on (w := w3) (l := [(⟨w.heap.size, 0, none⟩, .func (.func 41) #[] #[]), (⟨w.heap.size + 1, 0, none⟩, .string X), (⟨w.heap.size + 1, 1, none⟩, .string x.2.1), (⟨w.heap.size + 1, 2, none⟩, .bool x.2.2.1), (⟨w.heap.size + 1, 3, none⟩, .string x.2.2.2.1), (⟨w.heap.size + 1, 4, none⟩, .slice x.2.2.2.2.1.1 x.2.2.2.2.1.2.1 x.2.2.2.2.1.2.2), (⟨w.heap.size + 1, 5, none⟩, .slice x.2.2.2.2.2.1 x.2.2.2.2.2.2.1 x.2.2.2.2.2.2.2)]) (by assumption) (by assumption) | exact AtF.al (w := w3) (l := [(⟨w.heap.size, 0, none⟩, .func (.func 41) #[] #[]), (⟨w.heap.size + 1, 0, none⟩, .string X), (⟨w.heap.size + 1, 1, none⟩, .string x.2.1), (⟨w.heap.size + 1, 2, none⟩, .bool x.2.2.1), (⟨w.heap.size + 1, 3, none⟩, .string x.2.2.2.1), (⟨w.heap.size + 1, 4, none⟩, .slice x.2.2.2.2.1.1 x.2.2.2.2.1.2.1 x.2.2.2.2.1.2.2), (⟨w.heap.size + 1, 5, none⟩, .slice x.2.2.2.2.2.1 x.2.2.2.2.2.2.1 x.2.2.2.2.2.2.2)]) (by assumption) _ | exact AtF.ald (w := w3) (l := [(⟨w.heap.size, 0, none⟩, .func (.func 41) #[] #[]), (⟨w.heap.size + 1, 0, none⟩, .string X), (⟨w.heap.size + 1, 1, none⟩, .string x.2.1), (⟨w.heap.size + 1, 2, none⟩, .bool x.2.2.1), (⟨w.heap.size + 1, 3, none⟩, .string x.2.2.2.1), (⟨w.heap.size + 1, 4, none⟩, .slice x.2.2.2.2.1.1 x.2.2.2.2.1.2.1 x.2.2.2.2.1.2.2), (⟨w.heap.size + 1, 5, none⟩, .slice x.2.2.2.2.2.1 x.2.2.2.2.2.2.1 x.2.2.2.2.2.2.2)]) (by assumption) _ | exact AtF.al (w := w3) (l := [(⟨w.heap.size, 0, none⟩, .func (.func 41) #[] #[]), (⟨w.heap.size + 1, 0, none⟩, .string X), (⟨w.heap.size + 1, 1, none⟩, .string x.2.1), (⟨w.heap.size + 1, 2, none⟩, .bool x.2.2.1), (⟨w.heap.size + 1, 3, none⟩, .string x.2.2.2.1), (⟨w.heap.size + 1, 4, none⟩, .slice x.2.2.2.2.1.1 x.2.2.2.2.1.2.1 x.2.2.2.2.1.2.2), (⟨w.heap.size + 1, 5, none⟩, .slice x.2.2.2.2.2.1 x.2.2.2.2.2.2.1 x.2.2.2.2.2.2.2)]) hs _ | exact AtF.ald (w := w3) (l := [(⟨w.heap.size, 0, none⟩, .func (.func 41) #[] #[]), (⟨w.heap.size + 1, 0, none⟩, .string X), (⟨w.heap.size + 1, 1, none⟩, .string x.2.1), (⟨w.heap.size + 1, 2, none⟩, .bool x.2.2.1), (⟨w.heap.size + 1, 3, none⟩, .string x.2.2.2.1), (⟨w.heap.size + 1, 4, none⟩, .slice x.2.2.2.2.1.1 x.2.2.2.2.1.2.1 x.2.2.2.2.1.2.2), (⟨w.heap.size + 1, 5, none⟩, .slice x.2.2.2.2.2.1 x.2.2.2.2.2.2.1 x.2.2.2.2.2.2.2)]) hs _)
    (((first | (go_at_call 41; (with_reducible refine (PA _ _ _ _ _ _ _ _ _ _ _).mono ?_); rintro e w4 ⟨rfl, hb⟩) | (go_at_call 48; (with_reducible refine (KF _ (HB3.out.trans ((BE _ (by assumption)).mono hsz3))).mono ?_); rintro e w4 ⟨rfl, hb⟩))))
  all_goals
    rename_i hHeld
    obtain ⟨j1, e0, e1, e2, e3, e4, e5, hB4⟩ := hHeld
    have HO4 := Lib.hid (OwnV.on HO3.out hB4)
    have HB4 := Lib.hid (HB3.out.trans (hB4.mono hsz3))
    have IX4 := IX _ HB4.out j1 e0 e1 e2 e3 e4 e5
    have HXC := Lib.hid (fun W (hb : Below w4.heap.size w4 W) => And.intro ((hb.cell (World.block_lt_of_cell? w4 _ e0)).trans e0) (And.intro ((hb.cell (World.block_lt_of_cell? w4 _ e1)).trans e1) (And.intro ((hb.cell (World.block_lt_of_cell? w4 _ e2)).trans e2) (And.intro ((hb.cell (World.block_lt_of_cell? w4 _ e3)).trans e3) (And.intro ((hb.cell (World.block_lt_of_cell? w4 _ e4)).trans e4) (((hb.cell (World.block_lt_of_cell? w4 _ e5)).trans e5)))))))
    clear hB4 hs KF hB BE HBX HB2 IX e0 e1 e2 e3 e4 e5 j1 k1
    rcases HW.out with ⟨hz, hm⟩ | ⟨q, hz, hm, hq⟩
    · subst hz hm
      go_wp2_with (first
        | (go_at_call 75; (with_reducible refine IX4.mono ?_); rintro e w5 ⟨rfl, hb⟩; have HB5 := Lib.hid (HB4.out.trans (hb.mono HB4.out.size)); have hz5 := HB5.out.size; have HO5 := Lib.hid (OwnV.on HO4.out hb); obtain ⟨e0, e1, e2, e3, e4, e5⟩ := HXC.out _ hb; clear hb IX4)
        | (go_at_call 77; (with_reducible refine (INS.out _ _ _ HO5.out hz5).mono ?_); rintro e w6 ⟨v6, rfl, h1, h2⟩; have HH6 := Lib.hid h1.holds; have HB6 := Lib.hid (OwnV.below HB5.out HO5.out h2 (Nat.le_refl _) hz5); clear h1 h2))
      go_ret
      exact HP.out _ _ HH6.out HB6.out
    · subst hz hm
      have hq0 : (0 : Int) ≤ (m : Int) := by omega
      go_wp2_with (first
        | (go_at_call 75; (with_reducible refine IX4.mono ?_); rintro e w5 ⟨rfl, hb⟩; have HB5 := Lib.hid (HB4.out.trans (hb.mono HB4.out.size)); have hz5 := HB5.out.size; have HO5 := Lib.hid (OwnV.on HO4.out hb); obtain ⟨e0, e1, e2, e3, e4, e5⟩ := HXC.out _ hb; clear hb IX4)
        | (go_at_call 77; (with_reducible refine (INS.out _ _ _ HO5.out hz5).mono ?_); rintro e w6 ⟨v6, rfl, h1, h2⟩; have HH6 := Lib.hid h1.holds; have HB6 := Lib.hid (OwnV.below HB5.out HO5.out h2 (Nat.le_refl _) hz5); clear h1 h2))
      go_ret
      exact HP.out _ _ HH6.out HB6.out
theorem kputO_anyZa (v : Value) (l : List OvZa) (hl : l.length ≤ 90000) (x : OvZa) (w : World) (h : HoldOZa w v l) : Calls Tryz.prog 46 #[v, kyOZa, aggOZa x] w (PutPostOZa l x w) := by
  cases hk0 : l.findIdx? (pathIsOZa x.1) with
  | none => exact kputO_newZa v l hl x w h hk0
  | some k0 => exact kputO_oldZa v l hl x w h k0 hk0
set_option maxRecDepth 100000 in
set_option maxHeartbeats 4000000 in
theorem putO_anyZa (v : Value) (l : List OvZa) (hl : l.length ≤ 90000) (x : OvZa) (w : World) (h : HoldOZa w v l) : Calls Tryz.prog 18 #[v, aggOZa x] w (PutPostOZa l x w) := by
  have B0 := (Below.refl w.heap.size w).alloc (Nat.le_refl _) (oXZa x)
  have I := kputO_anyZa v l hl x _ (HoldV.on h B0)
  have HB0 := Lib.hid B0
  obtain ⟨x0, x1, x2, x3, x4, x5⟩ := boxV6Za w (.string (bsT x.1)) (.string x.2.1) (.bool x.2.2.1) (.string x.2.2.2.1) (.slice x.2.2.2.2.1.1 x.2.2.2.2.1.2.1 x.2.2.2.2.1.2.2) (.slice x.2.2.2.2.2.1 x.2.2.2.2.2.2.1 x.2.2.2.2.2.2.2) 26
  have HP : Hid (∀ v w', HoldOZa w' v (putOZa l x) → Below w.heap.size w w' → PutPostOZa l x w (.returned v) w') := Lib.hid (fun v w' h1 h2 => ⟨v, rfl, h1, h2⟩)
  obtain ⟨a, c, b, o, rfl, -, -, -⟩ := h.parts
  unfold PutPostOZa kyOZa aggOZa at I
  unfold aggOZa
  clear h hl B0
  generalize l.length = n at *
  unfold oXZa at I HB0
  generalize bsT x.1 = X at *
  go_enter Tryz.func18, Tryz.ntmps18
  go_wp2_with (go_at_call 46; refine I.mono ?_; rintro e w1 ⟨v1, rfl, h1, hb⟩; have HO := Lib.hid h1; have HB := Lib.hid (HB0.out.trans (hb.mono HB0.out.size)); clear hb h1)
  go_ret
  exact HP.out _ _ HO.out HB.out
end Go.Proofs.YtnfhccnicojdcaaGreatDoor
namespace Go.Proofs.YtnfhccnicojdcaaGreatDoor
open Go.RowKit
def slcOf : Value → SlcZa
  | .slice a n c => (a, n, c)
  | _ => (none, 0, 0)
def shA (x : Av) : OvZa := (x.nm, ⟨x.lk.toArray⟩, x.mn, ⟨x.cr.toArray⟩, slcOf x.sv, slcOf x.cv)
theorem slc_is {v : Value} (h : ∃ a n c, v = .slice a n c) : Value.slice (slcOf v).1 (slcOf v).2.1 (slcOf v).2.2 = v := by
  obtain ⟨a, n, c, rfl⟩ := h; rfl
theorem cells_sh {w : World} {x : Av} (h : InA w x) : cellsOZa (shA x) = cellsA x := by
  show [_, _, _, _, Value.slice (slcOf x.sv).1 (slcOf x.sv).2.1 (slcOf x.sv).2.2, Value.slice (slcOf x.cv).1 (slcOf x.cv).2.1 (slcOf x.cv).2.2] = _
  rw [slc_is (formAs h), slc_is (formAc h)]; rfl
theorem agg_sh {w : World} {x : Av} (h : InA w x) : aggOZa (shA x) = agZA x := by
  show Value.agg #[_, _, _, _, Value.slice (slcOf x.sv).1 (slcOf x.sv).2.1 (slcOf x.sv).2.2, Value.slice (slcOf x.cv).1 (slcOf x.cv).2.1 (slcOf x.cv).2.2] = _
  rw [slc_is (formAs h), slc_is (formAc h)]; rfl
theorem map_sh {w : World} {l : List Av} (h : ∀ x ∈ l, InA w x) : (l.map shA).map cellsOZa = l.map cellsA := by
  rw [List.map_map]; exact List.map_congr_left (fun x hx => cells_sh (h x hx))
theorem hold_sh {w : World} {v : Value} {l : List Av} (h : HoldA w v l) : HoldOZa w v (l.map shA) := by
  unfold HoldOZa; rw [map_sh h.2]; exact h.1
theorem sh_hold {w : World} {v : Value} {l : List Av} (h : HoldOZa w v (l.map shA)) (hi : ∀ x ∈ l, InA w x) : HoldA w v l := by
  unfold HoldOZa at h; rw [map_sh hi] at h; exact ⟨h, hi⟩
def nmIs (p : Bs) (y : Av) : Bool := decide (y.nm = p)
def nmOver (p : Bs) (y : Av) : Bool := decide (p < y.nm)
def cutA (l : List Av) (p : Bs) : Nat := match l.findIdx? (nmOver p) with
  | some k => k
  | none => l.length
def putA (l : List Av) (x : Av) : List Av := match l.findIdx? (nmIs x.nm) with
  | some k => l.set k x
  | none => l.take (cutA l x.nm) ++ x :: l.drop (cutA l x.nm)
def dropA (l : List Av) (p : Bs) : List Av := l.filter (fun y => !decide (y.nm = p))
theorem put_sh (l : List Av) (x : Av) : putOZa (l.map shA) (shA x) = (putA l x).map shA := by
  have e1 : (l.map shA).findIdx? (pathIsOZa (shA x).1) = l.findIdx? (nmIs x.nm) := by rw [List.findIdx?_map]; rfl
  have e2 : (l.map shA).findIdx? (overOZa (shA x).1) = l.findIdx? (nmOver x.nm) := by rw [List.findIdx?_map]; rfl
  have e3 : cutPOZa (l.map shA) (shA x).1 = cutA l x.nm := by
    unfold cutPOZa cutA; rw [e2, List.length_map]
    cases l.findIdx? (nmOver x.nm) <;> rfl
  unfold putOZa putA
  rw [e1, e3]
  cases l.findIdx? (nmIs x.nm) with
  | some k => simp only; rw [List.map_set]
  | none => simp only; rw [List.map_append, List.map_cons, List.map_take, List.map_drop]
theorem drop_sh (l : List Av) (p : Bs) : dropOZa (l.map shA) p = (dropA l p).map shA := by
  unfold dropOZa dropA
  rw [List.filter_map]; rfl
theorem putA_mem {l : List Av} {x y : Av} (h : y ∈ putA l x) : y ∈ l ∨ y = x := by
  unfold putA at h
  split at h
  · rcases List.mem_or_eq_of_mem_set h with h | h
    · exact .inl h
    · exact .inr h
  · rcases List.mem_append.1 h with h | h
    · exact .inl (List.mem_of_mem_take h)
    · rcases List.mem_cons.1 h with h | h
      · exact .inr h
      · exact .inl (List.mem_of_mem_drop h)
theorem putA_len (l : List Av) (x : Av) : (putA l x).length ≤ l.length + 1 := by
  unfold putA
  split
  · rw [List.length_set]; omega
  · simp only [List.length_append, List.length_cons, List.length_take, List.length_drop]; omega
theorem dropA_mem {l : List Av} {p : Bs} {y : Av} (h : y ∈ dropA l p) : y ∈ l := (List.mem_filter.1 h).1
theorem dropA_len (l : List Av) (p : Bs) : (dropA l p).length ≤ l.length := List.length_filter_le _ _
theorem findIdx_ge {α : Type} {l : List α} {p : α → Bool} {x : α} (hx : x ∈ l) (hp : p x = true) : ∃ k : Nat, l.findIdx? p = some k := by
  cases h : l.findIdx? p with
  | some k => exact ⟨k, rfl⟩
  | none => rw [List.findIdx?_eq_none_iff.1 h x hx] at hp; cases hp
theorem putA_has (l : List Av) (x : Av) : x ∈ putA l x := by
  unfold putA
  split
  · rename_i k hk
    have := (List.findIdx?_eq_some_iff_getElem.1 hk).1
    exact List.mem_of_getElem? (List.getElem?_set_self this)
  · exact List.mem_append.2 (.inr List.mem_cons_self)
abbrev idxA (l : List Av) (p : Bs) : Int := idxK l (nmIs p)
theorem idx_sh (l : List Av) (p : Bs) : idxOZa (l.map shA) (pathIsOZa p) = idxA l p := by
  unfold idxOZa idxA idxK
  rw [show (l.map shA).findIdx? (pathIsOZa p) = l.findIdx? (nmIs p) by rw [List.findIdx?_map]; rfl]
  cases l.findIdx? (nmIs p) <;> rfl
theorem put_find (l : List Av) (x : Av) : 0 ≤ idxA (putA l x) x.nm := by
  obtain ⟨k, hk⟩ := findIdx_ge (p := nmIs x.nm) (putA_has l x) (by unfold nmIs; exact decide_eq_true rfl)
  unfold idxA idxK; rw [hk]; simp only; omega
theorem drop_find (l : List Av) (p : Bs) : idxA (dropA l p) p = -1 := idxK_miss (fun j y hy => by
  have := (List.mem_filter.1 (List.mem_of_getElem? hy)).2
  unfold nmIs
  simpa using this)
theorem putA_any (v : Value) (l : List Av) (hl : l.length ≤ 90000) (x : Av) (w : World) (h : HoldA w v l) (hx : InA w x) : Calls Tryz.prog 18 #[v, agZA x] w fun e w' => ∃ v', e = .returned v' ∧ HoldA w' v' (putA l x) ∧ Below w.heap.size w w' := by
  have := putO_anyZa v (l.map shA) (by rw [List.length_map]; exact hl) (shA x) w (hold_sh h)
  rw [agg_sh hx] at this
  refine this.mono fun e w' ⟨v', he, ho, hb⟩ => ⟨v', he, ?_, hb⟩
  rw [put_sh] at ho
  exact sh_hold ho (fun y hy => (putA_mem hy).elim (fun h' => (h.2 y h').on hb) (fun e => by rw [e]; exact hx.on hb))
theorem putA_ref (v : Value) (l : List Av) (hl : l.length ≤ 90000) (x : Av) (w : World) (h : HoldA w v l) (hx : InA w x) : Calls Tryz.prog 21 #[v, agZA x] w fun e w' => ∃ v', e = .returned v' ∧ HoldA w' v' (putA l x) ∧ Below w.heap.size w w' := by
  have := putO_refZa v (l.map shA) (by rw [List.length_map]; exact hl) (shA x) w (hold_sh h)
  rw [agg_sh hx] at this
  refine this.mono fun e w' ⟨v', he, ho, hb⟩ => ⟨v', he, ?_, hb⟩
  rw [put_sh] at ho
  exact sh_hold ho (fun y hy => (putA_mem hy).elim (fun h' => (h.2 y h').on hb) (fun e => by rw [e]; exact hx.on hb))
theorem dropA_any (v : Value) (l : List Av) (hl : l.length ≤ 90000) (p : ByteArray) (w : World) (h : HoldA w v l) : Calls Tryz.prog 19 #[v, .string p] w fun e w' => ∃ v', e = .returned v' ∧ HoldA w' v' (dropA l p.data.toList) ∧ Below w.heap.size w w' := by
  refine (dropO_anyZa v (l.map shA) (by rw [List.length_map]; exact hl) p w (hold_sh h)).mono fun e w' ⟨v', he, ho, hb⟩ => ⟨v', he, ?_, hb⟩
  have ho := ho.holds
  rw [drop_sh] at ho
  exact sh_hold ho (fun y hy => (h.2 y (dropA_mem hy)).on hb)
theorem dropA_ref (v : Value) (l : List Av) (hl : l.length ≤ 90000) (p : ByteArray) (w : World) (h : HoldA w v l) : Calls Tryz.prog 22 #[v, .string p] w fun e w' => ∃ v', e = .returned v' ∧ HoldA w' v' (dropA l p.data.toList) ∧ Below w.heap.size w w' := by
  refine (dropO_refZa v (l.map shA) (by rw [List.length_map]; exact hl) p w (hold_sh h)).mono fun e w' ⟨v', he, ho, hb⟩ => ⟨v', he, ?_, hb⟩
  have ho := ho.holds
  rw [drop_sh] at ho
  exact sh_hold ho (fun y hy => (h.2 y (dropA_mem hy)).on hb)
theorem findA_any (v : Value) (l : List Av) (hl : l.length ≤ 90000) (p : ByteArray) (w : World) (h : HoldA w v l) : Calls Tryz.prog 23 #[v, .string p] w fun e w' => e = .returned (.int .i64 (idxA l p.data.toList)) ∧ Below w.heap.size w w' := by
  have := findO_anyZa v (l.map shA) (by rw [List.length_map]; exact hl) p w (hold_sh h)
  rwa [idx_sh] at this
theorem findA_ref (v : Value) (l : List Av) (hl : l.length ≤ 90000) (p : ByteArray) (w : World) (h : HoldA w v l) : Calls Tryz.prog 24 #[v, .string p] w fun e w' => e = .returned (.int .i64 (idxA l p.data.toList)) ∧ w = w' := by
  have := findO_refZa v (l.map shA) (by rw [List.length_map]; exact hl) p w (hold_sh h)
  rwa [idx_sh] at this
end Go.Proofs.YtnfhccnicojdcaaGreatDoor
