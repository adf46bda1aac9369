/-
  keyed.Put and lists.Put: what they return; nothing old turns.
-/
import Derived.Test.YtogkickaebmeoaaDoorTPutP
namespace Go.Proofs.YtogkickaebmeoaaDoor
open Go.RowKit
theorem lcells_set : ∀ (l : List Lp) (k : Nat) (x : Lp), k < l.length → lcells (l.set k x) = ((lcells l).set (k * 2) (.string (bsT x.1.1))).set (k * 2 + 1) x.2
  | [], k, x, h => by simp at h
  | g :: l, 0, x, h => by simp [lcells]
  | g :: l, k + 1, x, h => by
    have := lcells_set l k x (by simpa using h)
    rw [List.set_cons_succ, show (k + 1) * 2 = k * 2 + 1 + 1 by omega, show k * 2 + 1 + 1 + 1 = k * 2 + 1 + 1 + 1 by omega]
    simp only [lcells, List.flatMap_cons, List.cons_append, List.nil_append, List.set_cons_succ]
    rw [show (List.flatMap (fun p : Lp => [Value.string (bsT p.1.1), p.2]) (l.set k x)) = lcells (l.set k x) from rfl, this]
abbrev putT2 (w : World) (g o : Nat) (x y : Value) : World := (w.setCell ⟨g, o, none⟩ x).setCell ⟨g, o + 1, none⟩ y
theorem ownL_set {w : World} {base g n c : Nat} {l : List Lp} (h : OwnC w base (.slice (some ⟨g, 0, none⟩) n c) l) {k : Nat} (hk : k < l.length) (x : Lp) :
    OwnC (putT2 w g (k * 2) (.string (bsT x.1.1)) x.2) base (.slice (some ⟨g, 0, none⟩) n c) (l.set k x) ∧ w.grownBy (putT2 w g (k * 2) (.string (bsT x.1.1)) x.2) (some g) := by
  rcases h.2 with ⟨h0, _⟩ | ⟨g', c', cur, hv, hb, hg, hn, hm, hs, ht⟩
  · simp at h0
  · simp only [Value.slice.injEq, Option.some.injEq, Addr.mk.injEq, and_true] at hv
    obtain ⟨rfl, rfl, rfl⟩ := hv
    obtain ⟨C, hC⟩ : ∃ C, C = (cur.setIfInBounds (k * 2) (.string (bsT x.1.1))).setIfInBounds (k * 2 + 1) x.2 := ⟨_, rfl⟩
    have e : putT2 w g (k * 2) (.string (bsT x.1.1)) x.2 = w.setRow g C := by
      unfold putT2
      rw [setCell_eq_setRow w g (k * 2) cur _ (0, 0) _ hg]
      have h1 := setRow_heap w g cur (cur.setIfInBounds (k * 2) (.string (bsT x.1.1))) _ _ hg
      rw [setCell_eq_setRow _ g (k * 2 + 1) _ _ (0, 0) _ h1, setRow_setRow, hC]
    rw [e]
    refine ⟨⟨by rw [lcells_len, List.length_set], .inr ⟨g, c, C, by rw [List.length_set], hb, setRow_heap w g cur C _ _ hg, by rw [List.length_set]; exact hn, hm, by rw [hC]; simp [hs], ?_⟩⟩, ⟨rfl, rfl, rfl, by simp, fun j hj hne => setRow_other w g j C (fun e => hne (by rw [e]))⟩⟩
    rw [List.length_set, lcells_set l k x hk, ← ht, hC]
    simp only [Array.toList_setIfInBounds, List.take_set]
theorem OwnC.form {w : World} {base : Nat} {v : Value} {l : List Lp} (h : OwnC w base v l) (h0 : 0 < l.length) : ∃ g c, v = .slice (some ⟨g, 0, none⟩) l.length c := by
  rcases h.2 with ⟨_, h1⟩ | ⟨g, c, cur, rfl, _⟩
  · omega
  · exact ⟨g, c, rfl⟩
theorem OwnC.cellsAt {w : World} {base g n c : Nat} {l : List Lp} (h : OwnC w base (.slice (some ⟨g, 0, none⟩) n c) l) {k : Nat} (hk : k < l.length) : (∀ j, w.frozen? ⟨g, j, none⟩ = false) ∧ ∃ a b, w.cell? ⟨g, k * 2, none⟩ = some a ∧ w.cell? ⟨g, k * 2 + 1, none⟩ = some b := by
  obtain ⟨x, hx⟩ : ∃ x, l[k]? = some x := ⟨_, List.getElem?_eq_getElem hk⟩
  have hc := World.ownsRow.cells h (g := g) rfl
  obtain ⟨e0, e1⟩ := lcells_at l k x hx
  have c0 := hc _ _ e0
  have c1 := hc _ _ e1
  rw [Addr.add_lit, Nat.zero_add] at c0 c1
  refine ⟨fun j => ?_, _, _, c0, c1⟩
  rcases h.2 with ⟨h0, _⟩ | ⟨g', c', cur, hv, hb, hg, _⟩
  · simp at h0
  · simp only [Value.slice.injEq, Option.some.injEq, Addr.mk.injEq] at hv
    obtain ⟨⟨rfl, _⟩, _⟩ := hv
    simp [World.frozen?, hg]
theorem ownL_ne {w : World} {base : Nat} {v : Value} {l : List Lp} (h : OwnC w base v l) : v.ownBlock ≠ some w.heap.size := fun e => by have := (World.ownsRow.lt h _ e).2; omega
abbrev PutQ (w3 : World) (B1 B2 : Nat) (k0 k1 : Value) (W : World) : Prop :=
  W.cell? ⟨B1, 0, none⟩ = some (.func (.func 52) #[] #[]) ∧ W.cell? ⟨B2, 0, none⟩ = some k0 ∧ W.cell? ⟨B2, 1, none⟩ = some k1 ∧ Below w3.heap.size w3 W
theorem PutQ.on {w : World} {B1 B2 : Nat} {k0 k1 : Value} {W W1 : World} (h : PutQ w B1 B2 k0 k1 W) (hb : Below W.heap.size W W1) : PutQ w B1 B2 k0 k1 W1 := by
  obtain ⟨h2, g0, g1, h4⟩ := h
  exact ⟨(hb.cell (World.block_lt_of_cell? W _ h2)).trans h2, (hb.cell (World.block_lt_of_cell? W _ g0)).trans g0, (hb.cell (World.block_lt_of_cell? W _ g1)).trans g1, h4.trans (hb.mono h4.size)⟩
theorem PutQ.dr {w : World} {B1 B2 : Nat} {k0 k1 : Value} {W : World} (h : PutQ w B1 B2 k0 k1 W) : PutQ w B1 B2 k0 k1 W.drew := h.on (Below.refl _ _).drew
theorem PutQ.be {w : World} {B1 B2 : Nat} {k0 k1 : Value} {W : World} (h : PutQ w B1 B2 k0 k1 W) : Below w.heap.size w W := h.2.2.2
set_option maxRecDepth 100000 in
set_option maxHeartbeats 8000000 in
theorem kputL_old (v : Value) (l : List Lp) (hl : l.length ≤ 90000) (w : World) (x : Lp) (ua : Option Addr) (un uc : Nat) (hu : x.2 = .slice ua un uc) (hxT : HoldT w x.2 x.1.2) (h : HoldL w v l) (k0 : Nat) (hk0 : l.findIdx? (nameIs x.1.1) = some k0) : Calls Tryd.prog 55 #[v, nmF, aggT x] w (PutPostL l x w) := by
  have hi0 : idxG l (nameIs x.1.1) = (k0 : Int) := by unfold idxG; rw [hk0]
  have hP : putL l x = l.set k0 x := by unfold putL; rw [hk0]
  have hkl : k0 < l.length := (List.findIdx?_eq_some_iff_getElem.1 hk0).1
  have hall0 : InT w (l.set k0 x) := by rw [← hP]; exact putL_in h.1 hxT
  have HP : Hid (∀ base v w', OwnC w' base v (l.set k0 x) → Below w.heap.size w w' → PutPostL l x w (.returned v) w') := Lib.hid (fun base v w' h1 h2 => ⟨v, rfl, by rw [hP]; exact h1.holds (hall0.on h2), h2⟩)
  have HSET := Lib.hid (fun (W : World) (base g n c : Nat) (h : OwnC W base (.slice (some ⟨g, 0, none⟩) n c) l) => (show OwnC (putT2 W g (k0 * 2) (.string (bsT x.1.1)) (.slice ua un uc)) base (.slice (some ⟨g, 0, none⟩) n c) (l.set k0 x) ∧ W.grownBy (putT2 W g (k0 * 2) (.string (bsT x.1.1)) (.slice ua un uc)) (some g) by rw [← hu]; exact ownL_set h hkl x))
  have HFORM := Lib.hid (fun (W : World) (base : Nat) (u : Value) (h : OwnC W base u l) => OwnC.form h (by omega))
  have HCELL := Lib.hid (fun (W : World) (base g n c : Nat) (h : OwnC W base (.slice (some ⟨g, 0, none⟩) n c) l) => OwnC.cellsAt h hkl)
  have CA := fun W (hb : Below w.heap.size w W) => cloneL_any v l hl W (h.on hb)
  have KF := fun W (hb : Below w.heap.size w W) => kfindL_any v l hl (bsT x.1.1) W (h.on hb)
  have PA := fun a b w => nameOf_any a b w
  unfold ClonePostL at CA
  unfold nmF at KF ⊢
  rw [bytesOf, hi0] at KF
  have B2 := ((Below.refl w.heap.size w).alloc (Nat.le_refl _) (.cells #[nmF] 76)).alloc (by simp) (.cells #[.string (bsT x.1.1), .slice ua un uc] 24)
  have q1 := (Boxed.new w 76 nmF).alloc (.cells #[.string (bsT x.1.1), .slice ua un uc] 24)
  have q2 := box2 (w.alloc (.cells #[nmF] 76)) (.string (bsT x.1.1)) (.slice ua un uc) 24
  rw [World.size_alloc] at q2
  have c1 := q1.cell
  have HPK0 := Lib.hid (show PutQ (((w.alloc (.cells #[nmF] 76)).alloc (.cells #[.string (bsT x.1.1), .slice ua un uc] 24))) w.heap.size (w.heap.size + 1) (.string (bsT x.1.1)) (.slice ua un uc) _ from ⟨c1, q2.1, q2.2, Below.refl _ _⟩)
  have HB2 := Lib.hid B2
  obtain ⟨-, a, c, b, o, rfl, -, -, -⟩ := h
  unfold aggT
  rw [hu]
  clear B2 q1 q2 c1 hk0 hi0 hP hu hxT
  generalize bsT x.1.1 = X at *
  generalize l.length = n at *
  go_enter Tryd.func55, Tryd.ntmps55
  unfold nmF at HPK0 HB2
  go_wp2_with (go_at_call 58; refine (CA _ HB2.out).mono ?_; rintro e w3 ⟨v3, rfl, ho, hb⟩; have HO3 := Lib.hid ho; obtain ⟨g, cg, rfl⟩ := HFORM.out _ _ _ ho; have HPK := Lib.hid (show PutQ w3 _ _ (.string X) (.slice ua un uc) w3 from ⟨(HPK0.out.on hb).1, (HPK0.out.on hb).2.1, (HPK0.out.on hb).2.2.1, Below.refl _ _⟩); have HB3 := Lib.hid (HB2.out.trans (hb.mono HB2.out.size)); clear ho hb)
  have hsz3 := HB3.out.size
  have hs := HPK.out
  obtain ⟨k1, k2, k3, hB⟩ := HPK.out
  clear CA
  go_region_held3 (fun V => V.cell? ⟨w.heap.size, 0, none⟩ = some (.func (.func 52) #[] #[]) ∧ V.cell? ⟨w.heap.size + 1, 0, none⟩ = some (.string X) ∧ V.cell? ⟨w.heap.size + 1, 1, none⟩ = some (.slice ua un uc) ∧ Below w3.heap.size w3 V)
    (first | assumption | exact hs | exact PutQ.dr hs | exact PutQ.on (by assumption) (by assumption))
    ((first
      | (go_at_call 52; refine (PA _ _ _).mono ?_; rintro e w4 ⟨rfl, hb⟩)
      | (go_at_call 57; (with_reducible refine (KF _ (HB3.out.trans (Below.mono (PutQ.be (B1 := w.heap.size) (B2 := w.heap.size + 1) (k0 := .string X) (k1 := .slice ua un uc) (by assumption)) hsz3))).mono ?_); rintro e w4 ⟨rfl, hb⟩)))
  all_goals
    rename_i hHeld
    obtain ⟨-, e0, e1, hB4⟩ := hHeld
    have HO4 := Lib.hid (show OwnC w4 _ _ l from World.ownsRow.kept HO3.out (grown_ofB hB4) (nn_ofB _))
    have HB4 := Lib.hid (HB3.out.trans (hB4.mono hsz3))
    obtain ⟨fz, d0, d1, r0, r1⟩ := HCELL.out _ _ _ _ _ HO4.out
    have f0 := fz (k0 * 2)
    have f1 := fz (k0 * 2 + 1)
    have hS := Lib.hid (HSET.out _ _ _ _ _ HO4.out)
    have hlt := (World.ownsRow.lt HO4.out g rfl)
    clear hB4 hs fz HSET HCELL HFORM KF HPK HPK0 k1 k2 k3 hB
    go_wp2
    go_ret
    exact HP.out _ _ _ hS.out.1 (HB4.out.grown hS.out.2 HB4.out.size (fun k hk => by cases hk; have := hlt.1; rw [World.size_alloc, World.size_alloc] at this; omega))
theorem oversL_none {l : List Lp} {p : Bs} : idxG l (overT p) = -1 ∧ cutL l p = l.length ∨ ∃ k : Nat, idxG l (overT p) = k ∧ cutL l p = k ∧ k < l.length := by
  unfold idxG cutL
  cases h : l.findIdx? (overT p) with
  | none => exact .inl ⟨rfl, rfl⟩
  | some k => exact .inr ⟨k, rfl, rfl, (List.findIdx?_eq_some_iff_getElem.1 h).1⟩
theorem OwnC.putAt {w' : World} {base : Nat} {v' : Value} {l : List Lp} {x : Lp} {i : Nat} (hi : i ≤ l.length) (h : w'.ownsRow base 24 2 v' (l.length + 1) ((lcells l).take (i * 2) ++ [.string (bsT x.1.1), x.2] ++ (lcells l).drop (i * 2))) : OwnC w' base v' (l.take i ++ x :: l.drop i) := by
  have e1 : ∀ m, m = l.take i → m.length = i → lcells l = lcells m ++ lcells (l.drop i) := fun m hm _ => by
    rw [hm, ← List.flatMap_append, List.take_append_drop]
  have e := e1 _ rfl (by rw [List.length_take]; omega)
  have hl : (lcells (l.take i)).length = i * 2 := by rw [lcells_len, List.length_take]; congr 1; omega
  unfold OwnC
  have e2 : lcells (l.take i ++ x :: l.drop i) = lcells (l.take i) ++ [.string (bsT x.1.1), x.2] ++ lcells (l.drop i) := by
    simp only [lcells, List.flatMap_append, List.flatMap_cons, List.append_assoc]
  rw [e2, show (l.take i ++ x :: l.drop i).length = l.length + 1 by simp; omega]
  rw [e, List.take_left' hl, List.drop_left' hl] at h
  exact h
set_option maxRecDepth 100000 in
set_option maxHeartbeats 8000000 in
theorem kputL_new (v : Value) (l : List Lp) (hl : l.length ≤ 90000) (w : World) (x : Lp) (ua : Option Addr) (un uc : Nat) (hu : x.2 = .slice ua un uc) (hxT : HoldT w x.2 x.1.2) (h : HoldL w v l) (hk0 : l.findIdx? (nameIs x.1.1) = none) : Calls Tryd.prog 55 #[v, nmF, aggT x] w (PutPostL l x w) := by
  have hi0 : idxG l (nameIs x.1.1) = -1 := by unfold idxG; rw [hk0]
  have hP : putL l x = l.take (cutL l x.1.1) ++ x :: l.drop (cutL l x.1.1) := by unfold putL; rw [hk0]
  obtain ⟨m, hm⟩ : ∃ m, cutL l x.1.1 = m := ⟨_, rfl⟩
  have hml : m ≤ l.length := by
    rcases oversL_none (l := l) (p := x.1.1) with ⟨-, h2⟩ | ⟨k, -, h2, h3⟩ <;> omega
  have hall0 : InT w (l.take m ++ x :: l.drop m) := by rw [← hm, ← hP]; exact putL_in h.1 hxT
  have HP : Hid (∀ base v w', OwnC w' base v (l.take m ++ x :: l.drop m) → Below w.heap.size w w' → PutPostL l x w (.returned v) w') := Lib.hid (fun base v w' h1 h2 => ⟨v, rfl, by rw [hP, hm]; exact h1.holds (hall0.on h2), h2⟩)
  have CA := fun W (hb : Below w.heap.size w W) => cloneL_any v l hl W (h.on hb)
  have KF := fun W (hb : Below w.heap.size w W) => kfindL_any v l hl (bsT x.1.1) W (h.on hb)
  have PA := fun a b w => nameOf_any a b w
  have IX := fun W (hb : Below w.heap.size w W) (h1 : W.cell? ⟨w.heap.size, 0, none⟩ = some (.func (.func 52) #[] #[])) (h2 : W.cell? ⟨w.heap.size + 1, 0, none⟩ = some (.string (bsT x.1.1))) (h3 : W.cell? ⟨w.heap.size + 1, 1, none⟩ = some (.slice ua un uc)) => idx_ls 82 #[.pointer (some ⟨w.heap.size, 0, none⟩), .pointer (some ⟨w.heap.size + 1, 0, none⟩)] (enters_of Tryd.func82 (by kernel_rfl) rfl) (overT (bsT x.1.1).data.toList) v l hl W (h.on hb) (fun W2 y hb2 hy => by
      obtain ⟨va, vn, vc, hv⟩ := HoldT.form (h.1 y hy)
      exact putpL_any _ _ _ ua un uc y va vn vc hv W2 ((hb2.cell (World.block_lt_of_cell? W _ h1)).trans h1) ((hb2.cell (World.block_lt_of_cell? W _ h2)).trans h2) ((hb2.cell (World.block_lt_of_cell? W _ h3)).trans h3))
  have INS := Lib.hid (fun (base : Nat) (u : Value) (W : World) (ho : OwnC W base u l) (vb : Nat) (vt : TypeId) (hv : W.heap[vb]? = some (.cells #[.string (bsT x.1.1), .slice ua un uc] vt (0, 0))) (hne : u.ownBlock ≠ some vb) (hbase : base ≤ W.heap.size) =>
    (insert_ownL base l.length u (lcells l) [.string (bsT x.1.1), .slice ua un uc] W ho (lcells_one h.1) m hml hl vb vt rfl hv (by intro t ht; simp at ht; rcases ht with rfl | rfl <;> rfl) hne hbase).mono (fun e w' ⟨v', he, h1, h2⟩ => (⟨v', he, OwnC.putAt hml (by rw [hu]; exact h1), h2⟩ : ∃ v', e = Ending.returned v' ∧ OwnC w' base v' (l.take m ++ x :: l.drop m) ∧ W.grownBy w' u.ownBlock)))
  unfold ClonePostL at CA
  unfold nmF at KF ⊢
  rw [bytesOf, hi0] at KF
  rw [bytesOf] at IX
  have HW : Hid (idxG l (overT x.1.1) = -1 ∧ m = l.length ∨ ∃ k : Nat, idxG l (overT x.1.1) = k ∧ m = k ∧ k < l.length) := Lib.hid (by rw [← hm]; exact oversL_none)
  have B2 := ((Below.refl w.heap.size w).alloc (Nat.le_refl _) (.cells #[nmF] 76)).alloc (by simp) (.cells #[.string (bsT x.1.1), .slice ua un uc] 24)
  have q1 := (Boxed.new w 76 nmF).alloc (.cells #[.string (bsT x.1.1), .slice ua un uc] 24)
  have q2 := box2 (w.alloc (.cells #[nmF] 76)) (.string (bsT x.1.1)) (.slice ua un uc) 24
  rw [World.size_alloc] at q2
  have c1 := q1.cell
  have HPK0 := Lib.hid (show PutQ (((w.alloc (.cells #[nmF] 76)).alloc (.cells #[.string (bsT x.1.1), .slice ua un uc] 24))) w.heap.size (w.heap.size + 1) (.string (bsT x.1.1)) (.slice ua un uc) _ from ⟨c1, q2.1, q2.2, Below.refl _ _⟩)
  have HB2 := Lib.hid B2
  obtain ⟨-, a, c, b, o, rfl, -, -, -⟩ := h
  unfold aggT
  rw [hu]
  clear B2 q1 q2 c1 hk0 hi0 hP hu hxT hm
  generalize idxG l (overT x.1.1) = z at *
  generalize bsT x.1.1 = X at *
  have HNN := Lib.hid hl
  generalize l.length = n at *
  go_enter Tryd.func55, Tryd.ntmps55
  unfold nmF at HPK0 HB2
  go_wp2_with (go_at_call 58; refine (CA _ HB2.out).mono ?_; rintro e w3 ⟨v3, rfl, ho, hb⟩; have HO3 := Lib.hid (OwnC.mono ho HB2.out.size); have HPK := Lib.hid (show PutQ w3 _ _ (.string X) (.slice ua un uc) w3 from ⟨(HPK0.out.on hb).1, (HPK0.out.on hb).2.1, (HPK0.out.on hb).2.2.1, Below.refl _ _⟩); have HB3 := Lib.hid (HB2.out.trans (hb.mono HB2.out.size)); have hz3 := hb.size; clear ho hb)
  have hsz3 := HB3.out.size
  have hs := HPK.out
  obtain ⟨k1, k2, k3, hB⟩ := HPK.out
  clear CA
  go_region_held3 (fun V => V.cell? ⟨w.heap.size, 0, none⟩ = some (.func (.func 52) #[] #[]) ∧ V.cell? ⟨w.heap.size + 1, 0, none⟩ = some (.string X) ∧ V.cell? ⟨w.heap.size + 1, 1, none⟩ = some (.slice ua un uc) ∧ Below w3.heap.size w3 V)
    (first | assumption | exact hs | exact PutQ.dr hs | exact PutQ.on (by assumption) (by assumption))
    ((first
      | (go_at_call 52; refine (PA _ _ _).mono ?_; rintro e w4 ⟨rfl, hb⟩)
      | (go_at_call 57; (with_reducible refine (KF _ (HB3.out.trans (Below.mono (PutQ.be (B1 := w.heap.size) (B2 := w.heap.size + 1) (k0 := .string X) (k1 := .slice ua un uc) (by assumption)) hsz3))).mono ?_); rintro e w4 ⟨rfl, hb⟩)))
  all_goals
    rename_i hHeld
    have HPK4 := Lib.hid (show PutQ w4 _ _ (.string X) (.slice ua un uc) w4 from ⟨hHeld.1, hHeld.2.1, hHeld.2.2.1, Below.refl _ _⟩)
    obtain ⟨-, -, -, hB4⟩ := hHeld
    have HO4 := Lib.hid (show OwnC w4 _ _ l from World.ownsRow.kept HO3.out (grown_ofB hB4) (nn_ofB _))
    have HB4 := Lib.hid (HB3.out.trans (hB4.mono hsz3))
    have IX4 := IX _ HB4.out HPK4.out.1 HPK4.out.2.1 HPK4.out.2.2.1
    clear hB4 hs KF HPK HPK0 k1 k2 k3 hB IX
    rcases HW.out with ⟨hz, hm⟩ | ⟨q, hz, hm, hq⟩
    · subst hz hm
      go_wp2_with (first
        | (go_at_call 81; (with_reducible refine IX4.mono ?_); rintro e w5 ⟨rfl, hb⟩; have HB5 := Lib.hid (HB4.out.trans (hb.mono HB4.out.size)); have hz5 := HB5.out.size; have HO5 := Lib.hid (show OwnC w5 w.heap.size v3 l from World.ownsRow.kept HO4.out (grown_ofB hb) (nn_ofB _)); obtain ⟨-, e0, e1, -⟩ := HPK4.out.on hb; clear hb IX4)
        | (go_at_call 83; refine (INS.out _ _ _ (World.ownsRow.alloc HO5.out _) _ _ (heap_alloc_new _ _) (ownL_ne HO5.out) (by rw [World.size_alloc]; omega)).mono ?_; rintro e w6 ⟨v6, rfl, h1, h2⟩; have HH6 := Lib.hid h1; have HB6 := Lib.hid (OwnC.below HB5.out HO5.out h2 (Nat.le_refl _) hz5); clear h1 h2))
      go_ret
      exact HP.out _ _ _ HH6.out HB6.out
    · subst hz hm
      have hq0 : (0 : Int) ≤ (m : Int) := by omega
      go_wp2_with (first
        | (go_at_call 81; (with_reducible refine IX4.mono ?_); rintro e w5 ⟨rfl, hb⟩; have HB5 := Lib.hid (HB4.out.trans (hb.mono HB4.out.size)); have hz5 := HB5.out.size; have HO5 := Lib.hid (show OwnC w5 w.heap.size v3 l from World.ownsRow.kept HO4.out (grown_ofB hb) (nn_ofB _)); obtain ⟨-, e0, e1, -⟩ := HPK4.out.on hb; clear hb IX4)
        | (go_at_call 83; refine (INS.out _ _ _ (World.ownsRow.alloc HO5.out _) _ _ (heap_alloc_new _ _) (ownL_ne HO5.out) (by rw [World.size_alloc]; omega)).mono ?_; rintro e w6 ⟨v6, rfl, h1, h2⟩; have HH6 := Lib.hid h1; have HB6 := Lib.hid (OwnC.below HB5.out HO5.out h2 (Nat.le_refl _) hz5); clear h1 h2))
      go_ret
      exact HP.out _ _ _ HH6.out HB6.out
theorem kputL_any (v : Value) (l : List Lp) (hl : l.length ≤ 90000) (w : World) (x : Lp) (ua : Option Addr) (un uc : Nat) (hu : x.2 = .slice ua un uc) (hxT : HoldT w x.2 x.1.2) (h : HoldL w v l) : Calls Tryd.prog 55 #[v, nmF, aggT x] w (PutPostL l x w) := by
  cases hk0 : l.findIdx? (nameIs x.1.1) with
  | none => exact kputL_new v l hl w x ua un uc hu hxT h hk0
  | some k0 => exact kputL_old v l hl w x ua un uc hu hxT h k0 hk0
set_option maxRecDepth 100000 in
set_option maxHeartbeats 4000000 in
theorem put13_any (v : Value) (l : List Lp) (hl : l.length ≤ 90000) (w : World) (x : Lp) (ua : Option Addr) (un uc : Nat) (hu : x.2 = .slice ua un uc) (hxT : HoldT w x.2 x.1.2) (h : HoldL w v l) : Calls Tryd.prog 19 #[v, aggT x] w (PutPostL l x w) := by
  have B0 := (Below.refl w.heap.size w).alloc (Nat.le_refl _) (.cells #[.string (bsT x.1.1), .slice ua un uc] 24)
  have I := kputL_any v l hl _ x ua un uc hu (hxT.on B0) (h.on B0)
  have HB0 := Lib.hid B0
  obtain ⟨x0, x1⟩ := box2 w (.string (bsT x.1.1)) (.slice ua un uc) 24
  have HP : Hid (∀ v w', HoldL w' v (putL l x) → Below w.heap.size w w' → PutPostL l x w (.returned v) w') := Lib.hid (fun v w' h1 h2 => ⟨v, rfl, h1, h2⟩)
  obtain ⟨-, a, c, b, o, rfl, -, -, -⟩ := h
  unfold PutPostL nmF aggT at I
  rw [hu] at I
  unfold aggT
  rw [hu]
  clear hl B0 hu hxT
  generalize l.length = n at *
  generalize bsT x.1.1 = X at *
  go_enter Tryd.func19, Tryd.ntmps19
  go_wp2_with (go_at_call 55; refine I.mono ?_; rintro e w1 ⟨v1, rfl, h1, hb⟩; have HO := Lib.hid h1; have HB := Lib.hid (HB0.out.trans (hb.mono HB0.out.size)); clear hb h1)
  go_ret
  exact HP.out _ _ HO.out HB.out
end Go.Proofs.YtogkickaebmeoaaDoor
