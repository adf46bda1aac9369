/-
  keyed.Put and overs.Put of overrides: what they return; nothing old turns.
-/
import Derived.Test.YtmjfbpiodamamaaGreatDoorOPutP
import Derived.Test.YtmjfbpiodamamaaGreatDoorInsO
namespace Go.Proofs.YtmjfbpiodamamaaGreatDoor
open Go.RowKit
abbrev flatO (l : List Ov) : List Value := (l.map cellsO).flatten
theorem flatO_set : ∀ (l : List Ov) (k : Nat) (x : Ov), k < l.length → flatO (l.set k x) = ((((flatO l).set (k * 4) (.string (bsT x.1))).set (k * 4 + 1) (.int .i64 x.2.1)).set (k * 4 + 2) (.int .i64 x.2.2.1)).set (k * 4 + 3) (.int .i64 x.2.2.2)
  | [], k, x, h => by simp at h
  | g :: l, 0, x, h => by simp [flatO]
  | g :: l, k + 1, x, h => by
    have := flatO_set l k x (by simpa using h)
    rw [List.set_cons_succ, show (k + 1) * 4 = k * 4 + 1 + 1 + 1 + 1 by omega, show k * 4 + 1 + 1 + 1 + 1 + 1 = k * 4 + 1 + 1 + 1 + 1 + 1 by omega, show k * 4 + 1 + 1 + 1 + 1 + 2 = k * 4 + 2 + 1 + 1 + 1 + 1 by omega, show k * 4 + 1 + 1 + 1 + 1 + 3 = k * 4 + 3 + 1 + 1 + 1 + 1 by omega]
    unfold flatO at this ⊢
    simp only [List.map_cons, List.flatten_cons, List.cons_append, List.nil_append, List.set_cons_succ]
    rw [this]
abbrev put4o (w : World) (g o : Nat) (x : Ov) : World := (((w.setCell ⟨g, o, none⟩ (.string (bsT x.1))).setCell ⟨g, o + 1, none⟩ (.int .i64 x.2.1)).setCell ⟨g, o + 2, none⟩ (.int .i64 x.2.2.1)).setCell ⟨g, o + 3, none⟩ (.int .i64 x.2.2.2)
theorem flatO_len (l : List Ov) : (flatO l).length = l.length * 4 := by
  have := flat_len 4 (l.map cellsO) (cellsO_len l)
  rwa [List.length_map] at this
theorem own_setO {w : World} {base g n c : Nat} {l : List Ov} (h : OwnO w base (.slice (some ⟨g, 0, none⟩) n c) l) {k : Nat} (hk : k < l.length) (x : Ov) :
    OwnO (put4o w g (k * 4) x) base (.slice (some ⟨g, 0, none⟩) n c) (l.set k x) ∧ w.grownBy (put4o w g (k * 4) x) (some g) := by
  have hl := h.2.1
  rw [List.length_map] at hl
  rcases h.2.2 with ⟨h0, _⟩ | ⟨g', c', cur, hv, hb, hg, hn, hm, hs, ht⟩
  · simp at h0
  · rw [List.length_map] at hv hn ht
    simp only [Value.slice.injEq, Option.some.injEq, Addr.mk.injEq, and_true] at hv
    obtain ⟨rfl, rfl, rfl⟩ := hv
    obtain ⟨C, hC⟩ : ∃ C, C = (((cur.setIfInBounds (k * 4) (.string (bsT x.1))).setIfInBounds (k * 4 + 1) (.int .i64 x.2.1)).setIfInBounds (k * 4 + 2) (.int .i64 x.2.2.1)).setIfInBounds (k * 4 + 3) (.int .i64 x.2.2.2) := ⟨_, rfl⟩
    have e : put4o w g (k * 4) x = w.setRow g C := by
      unfold put4o
      rw [setCell_eq_setRow w g (k * 4) cur _ (0, 0) _ hg]
      have h1 := setRow_heap w g cur (cur.setIfInBounds (k * 4) (.string (bsT x.1))) _ _ hg
      rw [setCell_eq_setRow _ g (k * 4 + 1) _ _ (0, 0) _ h1]
      have h2 := setRow_heap _ g _ ((cur.setIfInBounds (k * 4) (.string (bsT x.1))).setIfInBounds (k * 4 + 1) (.int .i64 x.2.1)) _ _ h1
      rw [setCell_eq_setRow _ g (k * 4 + 2) _ _ (0, 0) _ h2]
      have h3 := setRow_heap _ g _ (((cur.setIfInBounds (k * 4) (.string (bsT x.1))).setIfInBounds (k * 4 + 1) (.int .i64 x.2.1)).setIfInBounds (k * 4 + 2) (.int .i64 x.2.2.1)) _ _ h2
      rw [setCell_eq_setRow _ g (k * 4 + 3) _ _ (0, 0) _ h3, setRow_setRow, setRow_setRow, setRow_setRow, hC]
    rw [e]
    refine ⟨⟨cellsO_len _, ?_⟩, ⟨rfl, rfl, rfl, by simp, fun j hj hne => setRow_other w g j C (fun e => hne (by rw [e]))⟩⟩
    rw [List.length_map, List.length_set]
    refine ⟨by have := flatO_len (l.set k x); rw [List.length_set] at this; exact this, .inr ⟨g, c, C, rfl, hb, setRow_heap w g cur C _ _ hg, hn, hm, by rw [hC]; simp [hs], ?_⟩⟩
    have := flatO_set l k x hk
    unfold flatO at this
    rw [this, ← ht, hC]
    simp only [Array.toList_setIfInBounds, List.take_set]
theorem formO {w : World} {base : Nat} {v : Value} {l : List Ov} (h : OwnO w base v l) (h0 : 0 < l.length) : ∃ g c, v = .slice (some ⟨g, 0, none⟩) l.length c := by
  rcases h.2.2 with ⟨_, h1⟩ | ⟨g, c, cur, hv, _⟩
  · rw [List.length_map] at h1; omega
  · rw [List.length_map] at hv; exact ⟨g, c, hv⟩
theorem cellsAtO {w : World} {base g n c : Nat} {l : List Ov} (h : OwnO w base (.slice (some ⟨g, 0, none⟩) n c) l) {k : Nat} (hk : k < l.length) : (∀ j, w.frozen? ⟨g, j, none⟩ = false) ∧ ∃ a b d e, w.cell? ⟨g, k * 4, none⟩ = some (.string a) ∧ w.cell? ⟨g, k * 4 + 1, none⟩ = some (.int .i64 b) ∧ w.cell? ⟨g, k * 4 + 2, none⟩ = some (.int .i64 d) ∧ w.cell? ⟨g, k * 4 + 3, none⟩ = some (.int .i64 e) := by
  obtain ⟨a, c', b, o, e, hc, ha, hcell⟩ := HoldO.parts h.holds
  simp only [Value.slice.injEq] at e
  obtain ⟨rfl, rfl, rfl⟩ := e
  obtain ⟨ea, _⟩ := ha (by omega)
  cases ea
  obtain ⟨x, hx⟩ : ∃ x, l[k]? = some x := ⟨_, List.getElem?_eq_getElem hk⟩
  obtain ⟨c0, c1, c2, c3⟩ := hcell k x hx
  rw [Nat.zero_add] at c0 c1 c2 c3
  refine ⟨fun j => ?_, _, _, _, _, c0, c1, c2, c3⟩
  rcases h.2.2 with ⟨h0, _⟩ | ⟨g', c', cur, hv, hb, hg, _⟩
  · simp at h0
  · simp only [Value.slice.injEq, Option.some.injEq, Addr.mk.injEq] at hv
    obtain ⟨⟨rfl, _⟩, _⟩ := hv
    simp [World.frozen?, hg]
abbrev oX (x : Ov) : Obj := .cells #[.string (bsT x.1), .int .i64 x.2.1, .int .i64 x.2.2.1, .int .i64 x.2.2.2] 41
abbrev oK : Obj := .cells #[kyO] 62
/-- The boxes of the key and of the element, in a world that is built upon them. -/
theorem boxesO {w W : World} {x : Ov} (hb : Below ((w.alloc oK).alloc (oX x)).heap.size ((w.alloc oK).alloc (oX x)) W) :
    Below w.heap.size w W ∧ W.cell? ⟨w.heap.size, 0, none⟩ = some kyO ∧ W.cell? ⟨w.heap.size + 1, 0, none⟩ = some (.string (bsT x.1)) ∧ W.cell? ⟨w.heap.size + 1, 1, none⟩ = some (.int .i64 x.2.1) ∧ W.cell? ⟨w.heap.size + 1, 2, none⟩ = some (.int .i64 x.2.2.1) ∧ W.cell? ⟨w.heap.size + 1, 3, none⟩ = some (.int .i64 x.2.2.2) := by
  have B1 := (Below.refl w.heap.size w).alloc (Nat.le_refl _) oK
  have B2 := B1.alloc B1.size (oX x)
  have q1 := (Boxed.new w 62 kyO).alloc (oX x)
  obtain ⟨x0, x1, x2, x3⟩ := box4_on hb
  rw [World.size_alloc] at x0 x1 x2 x3
  exact ⟨B2.trans (hb.mono B2.size), (hb.cell q1.lt).trans q1.cell, x0, x1, x2, x3⟩
set_option maxRecDepth 100000 in
set_option maxHeartbeats 8000000 in
theorem kputO_old (v : Value) (l : List Ov) (hl : l.length ≤ 90000) (x : Ov) (w : World) (h : HoldO w v l) (k0 : Nat) (hk0 : l.findIdx? (pathIsO x.1) = some k0) : Calls Tryz.prog 42 #[v, kyO, aggO x] w (PutPostO l x w) := by
  have hi0 : idxO l (pathIsO x.1) = (k0 : Int) := by unfold idxO; rw [hk0]
  have hP : putO l x = l.set k0 x := by unfold putO; rw [hk0]
  have hkl : k0 < l.length := (List.findIdx?_eq_some_iff_getElem.1 hk0).1
  have HP : Hid (∀ v w', HoldO w' v (l.set k0 x) → Below w.heap.size w w' → PutPostO l x w (.returned v) w') := Lib.hid (fun v w' h1 h2 => ⟨v, rfl, by rw [hP]; exact h1, h2⟩)
  have HSET := Lib.hid (fun (W : World) (base g n c : Nat) (h : OwnO W base (.slice (some ⟨g, 0, none⟩) n c) l) => own_setO h hkl x)
  have HFORM := Lib.hid (fun (W : World) (base : Nat) (u : Value) (h : OwnO W base u l) => formO h (by omega))
  have HCELL := Lib.hid (fun (W : World) (base g n c : Nat) (h : OwnO W base (.slice (some ⟨g, 0, none⟩) n c) l) => cellsAtO h hkl)
  obtain ⟨B2, -⟩ := boxesO (x := x) (Below.refl ((w.alloc oK).alloc (oX x)).heap.size ((w.alloc oK).alloc (oX x)))
  have HBX := Lib.hid (fun W (hb : Below ((w.alloc oK).alloc (oX x)).heap.size ((w.alloc oK).alloc (oX x)) W) => boxesO hb)
  have CA := cloneO_any v l hl ((w.alloc oK).alloc (oX x)) (HoldV.on h B2)
  have KF := fun W (hb : Below w.heap.size w W) => kfindO_any v l hl (bsT x.1) W (HoldV.on h hb)
  have PA := fun X m u g w => pathOf_any X m u g w
  rw [bytesOf, hi0] at KF
  unfold kyO at KF ⊢
  unfold aggO
  have HB2 := Lib.hid B2
  obtain ⟨a, c, b, o, rfl, -, -, -⟩ := h.parts
  clear B2 h hk0 hi0 hP
  obtain ⟨X, hX⟩ : ∃ X, bsT x.1 = X := ⟨_, rfl⟩
  unfold oX oK kyO at CA HBX HB2
  rw [hX] at KF ⊢
  simp only [hX] at CA HBX HB2
  have HXX := Lib.hid hX
  clear hX
  generalize l.length = n at *
  go_enter Tryz.func42, Tryz.ntmps42
  go_wp2_with (go_at_call 61; refine CA.mono ?_; rintro e w3 ⟨v3, rfl, ho, hb⟩; have HO3 := Lib.hid ho; obtain ⟨g, cg, rfl⟩ := HFORM.out _ _ _ ho; have hbx := HBX.out _ hb; have HB3 := Lib.hid hbx.1; have hcx := hbx.2; clear ho hb hbx)
  have hsz3 := HB3.out.size
  obtain ⟨k1, e0, e1, e2, e3⟩ := hcx
  have hs := And.intro k1 (And.intro e0 (And.intro e1 (And.intro e2 (And.intro e3 (Below.refl w3.heap.size w3)))))
  have hB := Below.refl w3.heap.size w3
  clear CA
  have BE := fun (V : World) (h : V.cell? ⟨w.heap.size, 0, none⟩ = some (.func (.func 34) #[] #[]) ∧ V.cell? ⟨w.heap.size + 1, 0, none⟩ = some (.string X) ∧ V.cell? ⟨w.heap.size + 1, 1, none⟩ = some (.int .i64 x.2.1) ∧ V.cell? ⟨w.heap.size + 1, 2, none⟩ = some (.int .i64 x.2.2.1) ∧ V.cell? ⟨w.heap.size + 1, 3, none⟩ = some (.int .i64 x.2.2.2) ∧ Below w3.heap.size w3 V) => AtF.be (w := w3) (l := [(⟨w.heap.size, 0, none⟩, .func (.func 34) #[] #[]), (⟨w.heap.size + 1, 0, none⟩, .string X), (⟨w.heap.size + 1, 1, none⟩, .int .i64 x.2.1), (⟨w.heap.size + 1, 2, none⟩, .int .i64 x.2.2.1), (⟨w.heap.size + 1, 3, none⟩, .int .i64 x.2.2.2)]) h
  go_region_held3 (fun V => V.cell? ⟨w.heap.size, 0, none⟩ = some (.func (.func 34) #[] #[]) ∧ V.cell? ⟨w.heap.size + 1, 0, none⟩ = some (.string X) ∧ V.cell? ⟨w.heap.size + 1, 1, none⟩ = some (.int .i64 x.2.1) ∧ V.cell? ⟨w.heap.size + 1, 2, none⟩ = some (.int .i64 x.2.2.1) ∧ V.cell? ⟨w.heap.size + 1, 3, none⟩ = some (.int .i64 x.2.2.2) ∧ Below w3.heap.size w3 V)
    (first | assumption | exact hs | exact AtF.dr (w := w3) (l := [(⟨w.heap.size, 0, none⟩, .func (.func 34) #[] #[]), (⟨w.heap.size + 1, 0, none⟩, .string X), (⟨w.heap.size + 1, 1, none⟩, .int .i64 x.2.1), (⟨w.heap.size + 1, 2, none⟩, .int .i64 x.2.2.1), (⟨w.heap.size + 1, 3, none⟩, .int .i64 x.2.2.2)]) hs | exact AtF.dr (w := w3) (l := [(⟨w.heap.size, 0, none⟩, .func (.func 34) #[] #[]), (⟨w.heap.size + 1, 0, none⟩, .string X), (⟨w.heap.size + 1, 1, none⟩, .int .i64 x.2.1), (⟨w.heap.size + 1, 2, none⟩, .int .i64 x.2.2.1), (⟨w.heap.size + 1, 3, none⟩, .int .i64 x.2.2.2)]) (by assumption) | exact AtF.on (w := w3) (l := [(⟨w.heap.size, 0, none⟩, .func (.func 34) #[] #[]), (⟨w.heap.size + 1, 0, none⟩, .string X), (⟨w.heap.size + 1, 1, none⟩, .int .i64 x.2.1), (⟨w.heap.size + 1, 2, none⟩, .int .i64 x.2.2.1), (⟨w.heap.size + 1, 3, none⟩, .int .i64 x.2.2.2)]) (by assumption) (by assumption) | exact AtF.al (w := w3) (l := [(⟨w.heap.size, 0, none⟩, .func (.func 34) #[] #[]), (⟨w.heap.size + 1, 0, none⟩, .string X), (⟨w.heap.size + 1, 1, none⟩, .int .i64 x.2.1), (⟨w.heap.size + 1, 2, none⟩, .int .i64 x.2.2.1), (⟨w.heap.size + 1, 3, none⟩, .int .i64 x.2.2.2)]) (by assumption) _ | exact AtF.ald (w := w3) (l := [(⟨w.heap.size, 0, none⟩, .func (.func 34) #[] #[]), (⟨w.heap.size + 1, 0, none⟩, .string X), (⟨w.heap.size + 1, 1, none⟩, .int .i64 x.2.1), (⟨w.heap.size + 1, 2, none⟩, .int .i64 x.2.2.1), (⟨w.heap.size + 1, 3, none⟩, .int .i64 x.2.2.2)]) (by assumption) _ | exact AtF.al (w := w3) (l := [(⟨w.heap.size, 0, none⟩, .func (.func 34) #[] #[]), (⟨w.heap.size + 1, 0, none⟩, .string X), (⟨w.heap.size + 1, 1, none⟩, .int .i64 x.2.1), (⟨w.heap.size + 1, 2, none⟩, .int .i64 x.2.2.1), (⟨w.heap.size + 1, 3, none⟩, .int .i64 x.2.2.2)]) hs _ | exact AtF.ald (w := w3) (l := [(⟨w.heap.size, 0, none⟩, .func (.func 34) #[] #[]), (⟨w.heap.size + 1, 0, none⟩, .string X), (⟨w.heap.size + 1, 1, none⟩, .int .i64 x.2.1), (⟨w.heap.size + 1, 2, none⟩, .int .i64 x.2.2.1), (⟨w.heap.size + 1, 3, none⟩, .int .i64 x.2.2.2)]) hs _)
    (((first | (go_at_call 34; (with_reducible refine (PA _ _ _ _ _).mono ?_); rintro e w4 ⟨rfl, hb⟩) | (go_at_call 44; (with_reducible refine (KF _ (HB3.out.trans ((BE _ (by assumption)).mono hsz3))).mono ?_); rintro e w4 ⟨rfl, hb⟩))))
  all_goals
    rename_i hHeld
    obtain ⟨-, e0, e1, e2, e3, hB4⟩ := hHeld
    have HO4 := Lib.hid (OwnV.on HO3.out hB4)
    have HB4 := Lib.hid (HB3.out.trans (hB4.mono hsz3))
    obtain ⟨fz, d0, d1, d2, d3, r0, r1, r2, r3⟩ := HCELL.out _ _ _ _ _ HO4.out
    have f0 := fz (k0 * 4)
    have f1 := fz (k0 * 4 + 1)
    have f2 := fz (k0 * 4 + 2)
    have f3 := fz (k0 * 4 + 3)
    have hS := Lib.hid (HSET.out _ _ _ _ _ HO4.out)
    have hlt := (World.ownsRow.lt HO4.out.2 g rfl)
    have hgw : w.heap.size ≤ g := by have := hlt.1; simp only [World.size_alloc] at this; omega
    have hk1 : (0 : Int) ≤ (k0 : Int) := by omega
    clear hB4 hs fz HSET HCELL HFORM KF hB BE hlt HBX HB2
    go_wp2
    go_ret
    exact HP.out _ _ (by have := hS.out.1.holds; unfold put4o at this; rw [HXX.out] at this; exact this) (by have := HB4.out.grown hS.out.2 HB4.out.size (fun k hk => by cases hk; exact hgw); unfold put4o at this; rw [HXX.out] at this; exact this)
theorem oversO_none {l : List Ov} {p : Bs} : idxO l (overO p) = -1 ∧ cutPO l p = l.length ∨ ∃ k : Nat, idxO l (overO p) = k ∧ cutPO l p = k ∧ k < l.length := by
  unfold idxO cutPO
  cases h : l.findIdx? (overO p) with
  | none => exact .inl ⟨rfl, rfl⟩
  | some k => exact .inr ⟨k, rfl, rfl, (List.findIdx?_eq_some_iff_getElem.1 h).1⟩
theorem own_neV {T : TypeId} {k : Nat} {w : World} {base : Nat} {v : Value} {rows : List Rw} (h : OwnV T k w base v rows) : v.ownBlock ≠ some w.heap.size := fun e => by have := (World.ownsRow.lt h.2 _ e).2; omega
theorem flat_cut (k : Nat) : ∀ (rows : List Rw) (i : Nat), (∀ r ∈ rows, r.length = k) → rows.flatten.take (i * k) = (rows.take i).flatten ∧ rows.flatten.drop (i * k) = (rows.drop i).flatten
  | [], i, _ => by simp
  | r :: rows, 0, _ => by simp
  | r :: rows, i + 1, h => by
    have hr : r.length = k := h r (by simp)
    obtain ⟨h1, h2⟩ := flat_cut k rows i (fun q hq => h q (by simp [hq]))
    have e : (i + 1) * k = r.length + i * k := by rw [hr, Nat.add_mul]; omega
    rw [List.flatten_cons, e]
    refine ⟨?_, ?_⟩
    · rw [List.take_append, List.take_of_length_le (by omega), Nat.add_sub_cancel_left, h1]; simp
    · rw [List.drop_append, List.drop_of_length_le (by omega), Nat.add_sub_cancel_left, h2]; simp
theorem ins_ov (base : Nat) (v : Value) (cur : List Ov) (x : Ov) (i : Nat) (hi : i ≤ cur.length) (hl : cur.length ≤ 90000) (w2 : World) (h : OwnO w2 base v cur) (hbase : base ≤ w2.heap.size) :
    Calls Tryz.prog 64 #[v, .int .i64 i, .slice (some ⟨w2.heap.size, 0, none⟩) 1 1] (w2.alloc (oX x)) fun e w' =>
      ∃ v', e = .returned v' ∧ OwnO w' base v' (cur.take i ++ x :: cur.drop i) ∧ (w2.alloc (oX x)).grownBy w' v.ownBlock := by
  have hO := World.ownsRow.alloc h.2 (oX x)
  rw [List.length_map] at hO
  refine (insert_own base cur.length v (cur.map cellsO).flatten (cellsO x) _ hO (OwnO.one cur) i hi hl w2.heap.size 41 rfl (World.alloc_heap_new w2 _) (fun u hu => by simp at hu; rcases hu with rfl | rfl | rfl | rfl <;> rfl) (own_neV h) (by simp; omega)).mono ?_
  rintro e w' ⟨v', rfl, ho, hg⟩
  refine ⟨v', rfl, ⟨cellsO_len _, ?_⟩, hg⟩
  obtain ⟨h1, h2⟩ := flat_cut 4 (cur.map cellsO) i (cellsO_len cur)
  rw [h1, h2] at ho
  have e1 : ((cur.take i ++ x :: cur.drop i).map cellsO).flatten = ((cur.map cellsO).take i).flatten ++ cellsO x ++ ((cur.map cellsO).drop i).flatten := by
    rw [List.map_append, List.map_cons, List.flatten_append, List.flatten_cons, List.map_take, List.map_drop]; simp
  have e2 : ((cur.take i ++ x :: cur.drop i).map cellsO).length = cur.length + 1 := by simp; omega
  rw [e1, e2]; exact ho
set_option maxRecDepth 100000 in
set_option maxHeartbeats 8000000 in
theorem kputO_new (v : Value) (l : List Ov) (hl : l.length ≤ 90000) (x : Ov) (w : World) (h : HoldO w v l) (hk0 : l.findIdx? (pathIsO x.1) = none) : Calls Tryz.prog 42 #[v, kyO, aggO x] w (PutPostO l x w) := by
  have hi0 : idxO l (pathIsO x.1) = -1 := by unfold idxO; rw [hk0]
  have hP : putO l x = l.take (cutPO l x.1) ++ x :: l.drop (cutPO l x.1) := by unfold putO; rw [hk0]
  obtain ⟨m, hm⟩ : ∃ m, cutPO l x.1 = m := ⟨_, rfl⟩
  have hml : m ≤ l.length := by
    rcases oversO_none (l := l) (p := x.1) with ⟨-, h2⟩ | ⟨k, -, h2, h3⟩ <;> omega
  have HP : Hid (∀ v w', HoldO w' v (l.take m ++ x :: l.drop m) → Below w.heap.size w w' → PutPostO l x w (.returned v) w') := Lib.hid (fun v w' h1 h2 => ⟨v, rfl, by rw [hP, hm]; exact h1, h2⟩)
  have HW : Hid (idxO l (overO x.1) = -1 ∧ m = l.length ∨ ∃ k : Nat, idxO l (overO x.1) = k ∧ m = k ∧ k < l.length) := Lib.hid (by rw [← hm]; exact oversO_none)
  obtain ⟨B2, -⟩ := boxesO (x := x) (Below.refl ((w.alloc oK).alloc (oX x)).heap.size ((w.alloc oK).alloc (oX x)))
  have HBX := Lib.hid (fun W (hb : Below ((w.alloc oK).alloc (oX x)).heap.size ((w.alloc oK).alloc (oX x)) W) => boxesO hb)
  have CA := cloneO_any v l hl ((w.alloc oK).alloc (oX x)) (HoldV.on h B2)
  have KF := fun W (hb : Below w.heap.size w W) => kfindO_any v l hl (bsT x.1) W (HoldV.on h hb)
  have IX := fun W (hb : Below w.heap.size w W) (h1 : W.cell? ⟨w.heap.size, 0, none⟩ = some kyO) (g0 : W.cell? ⟨w.heap.size + 1, 0, none⟩ = some (.string (bsT x.1))) (g1 : W.cell? ⟨w.heap.size + 1, 1, none⟩ = some (.int .i64 x.2.1)) (g2 : W.cell? ⟨w.heap.size + 1, 2, none⟩ = some (.int .i64 x.2.2.1)) (g3 : W.cell? ⟨w.heap.size + 1, 3, none⟩ = some (.int .i64 x.2.2.2)) =>
    idxO_any 63 #[.pointer (some ⟨w.heap.size, 0, none⟩), .pointer (some ⟨w.heap.size + 1, 0, none⟩)] (enters_of Tryz.func63 (by kernel_rfl) rfl) (overO (bsT x.1).data.toList) v l hl W (HoldV.on h hb)
      (fun W2 y hb2 => putpO_any w.heap.size (w.heap.size + 1) (bsT x.1) x.2.1 x.2.2.1 x.2.2.2 y W2 ((hb2.cell (World.block_lt_of_cell? W _ h1)).trans h1) ((hb2.cell (World.block_lt_of_cell? W _ g0)).trans g0) ((hb2.cell (World.block_lt_of_cell? W _ g1)).trans g1) ((hb2.cell (World.block_lt_of_cell? W _ g2)).trans g2) ((hb2.cell (World.block_lt_of_cell? W _ g3)).trans g3))
  have INS := Lib.hid (fun (base : Nat) (u : Value) (W : World) (ho : OwnO W base u l) (hbase : base ≤ W.heap.size) => ins_ov base u l x m hml hl W ho hbase)
  have PA := fun X m u g w => pathOf_any X m u g w
  rw [bytesOf, hi0] at KF
  rw [bytesOf] at IX
  unfold kyO at KF IX ⊢
  unfold aggO
  have HB2 := Lib.hid B2
  obtain ⟨a, c, b, o, rfl, -, -, -⟩ := h.parts
  clear B2 h hk0 hi0 hP hm
  generalize idxO l (overO x.1) = z at *
  obtain ⟨X, hX⟩ : ∃ X, bsT x.1 = X := ⟨_, rfl⟩
  unfold oX oK kyO at CA HBX HB2
  unfold oX at INS
  rw [hX] at KF ⊢
  simp only [hX] at CA HBX HB2 IX INS
  clear hX
  generalize l.length = n at *
  go_enter Tryz.func42, Tryz.ntmps42
  go_wp2_with (go_at_call 61; refine CA.mono ?_; rintro e w3 ⟨v3, rfl, ho, hb⟩; have hbx := HBX.out _ hb; have HB3 := Lib.hid hbx.1; have HO3 := Lib.hid (OwnV.mono (B := w.heap.size) ho (by simp only [World.size_alloc]; omega)); have hcx := hbx.2; clear ho hb hbx)
  have hsz3 := HB3.out.size
  obtain ⟨k1, e0, e1, e2, e3⟩ := hcx
  have hs := And.intro k1 (And.intro e0 (And.intro e1 (And.intro e2 (And.intro e3 (Below.refl w3.heap.size w3)))))
  have hB := Below.refl w3.heap.size w3
  clear CA
  have BE := fun (V : World) (h : V.cell? ⟨w.heap.size, 0, none⟩ = some (.func (.func 34) #[] #[]) ∧ V.cell? ⟨w.heap.size + 1, 0, none⟩ = some (.string X) ∧ V.cell? ⟨w.heap.size + 1, 1, none⟩ = some (.int .i64 x.2.1) ∧ V.cell? ⟨w.heap.size + 1, 2, none⟩ = some (.int .i64 x.2.2.1) ∧ V.cell? ⟨w.heap.size + 1, 3, none⟩ = some (.int .i64 x.2.2.2) ∧ Below w3.heap.size w3 V) => AtF.be (w := w3) (l := [(⟨w.heap.size, 0, none⟩, .func (.func 34) #[] #[]), (⟨w.heap.size + 1, 0, none⟩, .string X), (⟨w.heap.size + 1, 1, none⟩, .int .i64 x.2.1), (⟨w.heap.size + 1, 2, none⟩, .int .i64 x.2.2.1), (⟨w.heap.size + 1, 3, none⟩, .int .i64 x.2.2.2)]) h
  go_region_held3 (fun V => V.cell? ⟨w.heap.size, 0, none⟩ = some (.func (.func 34) #[] #[]) ∧ V.cell? ⟨w.heap.size + 1, 0, none⟩ = some (.string X) ∧ V.cell? ⟨w.heap.size + 1, 1, none⟩ = some (.int .i64 x.2.1) ∧ V.cell? ⟨w.heap.size + 1, 2, none⟩ = some (.int .i64 x.2.2.1) ∧ V.cell? ⟨w.heap.size + 1, 3, none⟩ = some (.int .i64 x.2.2.2) ∧ Below w3.heap.size w3 V)
    (first | assumption | exact hs | exact AtF.dr (w := w3) (l := [(⟨w.heap.size, 0, none⟩, .func (.func 34) #[] #[]), (⟨w.heap.size + 1, 0, none⟩, .string X), (⟨w.heap.size + 1, 1, none⟩, .int .i64 x.2.1), (⟨w.heap.size + 1, 2, none⟩, .int .i64 x.2.2.1), (⟨w.heap.size + 1, 3, none⟩, .int .i64 x.2.2.2)]) hs | exact AtF.dr (w := w3) (l := [(⟨w.heap.size, 0, none⟩, .func (.func 34) #[] #[]), (⟨w.heap.size + 1, 0, none⟩, .string X), (⟨w.heap.size + 1, 1, none⟩, .int .i64 x.2.1), (⟨w.heap.size + 1, 2, none⟩, .int .i64 x.2.2.1), (⟨w.heap.size + 1, 3, none⟩, .int .i64 x.2.2.2)]) (by assumption) | exact AtF.on (w := w3) (l := [(⟨w.heap.size, 0, none⟩, .func (.func 34) #[] #[]), (⟨w.heap.size + 1, 0, none⟩, .string X), (⟨w.heap.size + 1, 1, none⟩, .int .i64 x.2.1), (⟨w.heap.size + 1, 2, none⟩, .int .i64 x.2.2.1), (⟨w.heap.size + 1, 3, none⟩, .int .i64 x.2.2.2)]) (by assumption) (by assumption) | exact AtF.al (w := w3) (l := [(⟨w.heap.size, 0, none⟩, .func (.func 34) #[] #[]), (⟨w.heap.size + 1, 0, none⟩, .string X), (⟨w.heap.size + 1, 1, none⟩, .int .i64 x.2.1), (⟨w.heap.size + 1, 2, none⟩, .int .i64 x.2.2.1), (⟨w.heap.size + 1, 3, none⟩, .int .i64 x.2.2.2)]) (by assumption) _ | exact AtF.ald (w := w3) (l := [(⟨w.heap.size, 0, none⟩, .func (.func 34) #[] #[]), (⟨w.heap.size + 1, 0, none⟩, .string X), (⟨w.heap.size + 1, 1, none⟩, .int .i64 x.2.1), (⟨w.heap.size + 1, 2, none⟩, .int .i64 x.2.2.1), (⟨w.heap.size + 1, 3, none⟩, .int .i64 x.2.2.2)]) (by assumption) _ | exact AtF.al (w := w3) (l := [(⟨w.heap.size, 0, none⟩, .func (.func 34) #[] #[]), (⟨w.heap.size + 1, 0, none⟩, .string X), (⟨w.heap.size + 1, 1, none⟩, .int .i64 x.2.1), (⟨w.heap.size + 1, 2, none⟩, .int .i64 x.2.2.1), (⟨w.heap.size + 1, 3, none⟩, .int .i64 x.2.2.2)]) hs _ | exact AtF.ald (w := w3) (l := [(⟨w.heap.size, 0, none⟩, .func (.func 34) #[] #[]), (⟨w.heap.size + 1, 0, none⟩, .string X), (⟨w.heap.size + 1, 1, none⟩, .int .i64 x.2.1), (⟨w.heap.size + 1, 2, none⟩, .int .i64 x.2.2.1), (⟨w.heap.size + 1, 3, none⟩, .int .i64 x.2.2.2)]) hs _)
    (((first | (go_at_call 34; (with_reducible refine (PA _ _ _ _ _).mono ?_); rintro e w4 ⟨rfl, hb⟩) | (go_at_call 44; (with_reducible refine (KF _ (HB3.out.trans ((BE _ (by assumption)).mono hsz3))).mono ?_); rintro e w4 ⟨rfl, hb⟩))))
  all_goals
    rename_i hHeld
    obtain ⟨j1, e0, e1, e2, e3, hB4⟩ := hHeld
    have HO4 := Lib.hid (OwnV.on HO3.out hB4)
    have HB4 := Lib.hid (HB3.out.trans (hB4.mono hsz3))
    have IX4 := IX _ HB4.out j1 e0 e1 e2 e3
    have HXC := Lib.hid (fun W (hb : Below w4.heap.size w4 W) => And.intro ((hb.cell (World.block_lt_of_cell? w4 _ e0)).trans e0) (And.intro ((hb.cell (World.block_lt_of_cell? w4 _ e1)).trans e1) (And.intro ((hb.cell (World.block_lt_of_cell? w4 _ e2)).trans e2) ((hb.cell (World.block_lt_of_cell? w4 _ e3)).trans e3))))
    clear hB4 hs KF hB BE HBX HB2 IX e0 e1 e2 e3 j1 k1
    rcases HW.out with ⟨hz, hm⟩ | ⟨q, hz, hm, hq⟩
    · subst hz hm
      go_wp2_with (first
        | (go_at_call 62; (with_reducible refine IX4.mono ?_); rintro e w5 ⟨rfl, hb⟩; have HB5 := Lib.hid (HB4.out.trans (hb.mono HB4.out.size)); have hz5 := HB5.out.size; have HO5 := Lib.hid (OwnV.on HO4.out hb); obtain ⟨e0, e1, e2, e3⟩ := HXC.out _ hb; clear hb IX4)
        | (go_at_call 64; (with_reducible refine (INS.out _ _ _ HO5.out hz5).mono ?_); rintro e w6 ⟨v6, rfl, h1, h2⟩; have HH6 := Lib.hid h1.holds; have HB6 := Lib.hid (OwnV.below HB5.out HO5.out h2 (Nat.le_refl _) hz5); clear h1 h2))
      go_ret
      exact HP.out _ _ HH6.out HB6.out
    · subst hz hm
      have hq0 : (0 : Int) ≤ (m : Int) := by omega
      go_wp2_with (first
        | (go_at_call 62; (with_reducible refine IX4.mono ?_); rintro e w5 ⟨rfl, hb⟩; have HB5 := Lib.hid (HB4.out.trans (hb.mono HB4.out.size)); have hz5 := HB5.out.size; have HO5 := Lib.hid (OwnV.on HO4.out hb); obtain ⟨e0, e1, e2, e3⟩ := HXC.out _ hb; clear hb IX4)
        | (go_at_call 64; (with_reducible refine (INS.out _ _ _ HO5.out hz5).mono ?_); rintro e w6 ⟨v6, rfl, h1, h2⟩; have HH6 := Lib.hid h1.holds; have HB6 := Lib.hid (OwnV.below HB5.out HO5.out h2 (Nat.le_refl _) hz5); clear h1 h2))
      go_ret
      exact HP.out _ _ HH6.out HB6.out
theorem kputO_any (v : Value) (l : List Ov) (hl : l.length ≤ 90000) (x : Ov) (w : World) (h : HoldO w v l) : Calls Tryz.prog 42 #[v, kyO, aggO x] w (PutPostO l x w) := by
  cases hk0 : l.findIdx? (pathIsO x.1) with
  | none => exact kputO_new v l hl x w h hk0
  | some k0 => exact kputO_old v l hl x w h k0 hk0
set_option maxRecDepth 100000 in
set_option maxHeartbeats 4000000 in
theorem putO_any (v : Value) (l : List Ov) (hl : l.length ≤ 90000) (x : Ov) (w : World) (h : HoldO w v l) : Calls Tryz.prog 16 #[v, aggO x] w (PutPostO l x w) := by
  have B0 := (Below.refl w.heap.size w).alloc (Nat.le_refl _) (oX x)
  have I := kputO_any v l hl x _ (HoldV.on h B0)
  have HB0 := Lib.hid B0
  obtain ⟨x0, x1, x2, x3⟩ := boxV4 w (.string (bsT x.1)) (.int .i64 x.2.1) (.int .i64 x.2.2.1) (.int .i64 x.2.2.2) 41
  have HP : Hid (∀ v w', HoldO w' v (putO l x) → Below w.heap.size w w' → PutPostO l x w (.returned v) w') := Lib.hid (fun v w' h1 h2 => ⟨v, rfl, h1, h2⟩)
  obtain ⟨a, c, b, o, rfl, -, -, -⟩ := h.parts
  unfold PutPostO kyO aggO at I
  unfold aggO
  clear h hl B0
  generalize l.length = n at *
  unfold oX at I HB0
  generalize bsT x.1 = X at *
  go_enter Tryz.func16, Tryz.ntmps16
  go_wp2_with (go_at_call 42; refine I.mono ?_; rintro e w1 ⟨v1, rfl, h1, hb⟩; have HO := Lib.hid h1; have HB := Lib.hid (HB0.out.trans (hb.mono HB0.out.size)); clear hb h1)
  go_ret
  exact HP.out _ _ HO.out HB.out
end Go.Proofs.YtmjfbpiodamamaaGreatDoor
