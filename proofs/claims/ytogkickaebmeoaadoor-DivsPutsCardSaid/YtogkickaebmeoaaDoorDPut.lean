/-
  keyed.Put and divs.Put: what they return; nothing old turns.
-/
import Derived.Test.YtogkickaebmeoaaDoorInsD
namespace Go.Proofs.YtogkickaebmeoaaDoor
open Go.RowKit
theorem dcells_set : ∀ (l : List Dv) (k : Nat) (x : Dv), k < l.length → dcells (l.set k x) = (((dcells l).set (k * 3) (.string (bsA x.1))).set (k * 3 + 1) (.string (bsA x.2.1))).set (k * 3 + 2) (.string (bsA x.2.2))
  | [], k, x, h => by simp at h
  | g :: l, 0, x, h => by simp [dcells]
  | g :: l, k + 1, x, h => by
    have := dcells_set l k x (by simpa using h)
    rw [List.set_cons_succ, show (k + 1) * 3 = k * 3 + 1 + 1 + 1 by omega, show k * 3 + 1 + 1 + 1 + 1 = k * 3 + 1 + 1 + 1 + 1 by omega, show k * 3 + 1 + 1 + 1 + 2 = k * 3 + 2 + 1 + 1 + 1 by omega]
    simp only [dcells, List.flatMap_cons, List.cons_append, List.nil_append, List.set_cons_succ]
    rw [show (List.flatMap (fun x : Dv => [Value.string (bsA x.1), Value.string (bsA x.2.1), Value.string (bsA x.2.2)]) (l.set k x)) = dcells (l.set k x) from rfl, this]
abbrev put3 (w : World) (g o : Nat) (x y z : ByteArray) : World := ((w.setCell ⟨g, o, none⟩ (.string x)).setCell ⟨g, o + 1, none⟩ (.string y)).setCell ⟨g, o + 2, none⟩ (.string z)
theorem own_set {w : World} {base g n c : Nat} {l : List Dv} (h : OwnD w base (.slice (some ⟨g, 0, none⟩) n c) l) {k : Nat} (hk : k < l.length) (x : Dv) :
    OwnD (put3 w g (k * 3) (bsA x.1) (bsA x.2.1) (bsA x.2.2)) base (.slice (some ⟨g, 0, none⟩) n c) (l.set k x) ∧ w.grownBy (put3 w g (k * 3) (bsA x.1) (bsA x.2.1) (bsA x.2.2)) (some g) := by
  rcases h.2 with ⟨h0, _⟩ | ⟨g', c', cur, hv, hb, hg, hn, hm, hs, ht⟩
  · simp at h0
  · simp only [Value.slice.injEq, Option.some.injEq, Addr.mk.injEq, and_true] at hv
    obtain ⟨rfl, rfl, rfl⟩ := hv
    obtain ⟨C, hC⟩ : ∃ C, C = ((cur.setIfInBounds (k * 3) (.string (bsA x.1))).setIfInBounds (k * 3 + 1) (.string (bsA x.2.1))).setIfInBounds (k * 3 + 2) (.string (bsA x.2.2)) := ⟨_, rfl⟩
    have e : put3 w g (k * 3) (bsA x.1) (bsA x.2.1) (bsA x.2.2) = w.setRow g C := by
      unfold put3
      rw [setCell_eq_setRow w g (k * 3) cur _ (0, 0) _ hg]
      have h1 := setRow_heap w g cur (cur.setIfInBounds (k * 3) (.string (bsA x.1))) _ _ hg
      rw [setCell_eq_setRow _ g (k * 3 + 1) _ _ (0, 0) _ h1]
      have h2 := setRow_heap _ g _ ((cur.setIfInBounds (k * 3) (.string (bsA x.1))).setIfInBounds (k * 3 + 1) (.string (bsA x.2.1))) _ _ h1
      rw [setCell_eq_setRow _ g (k * 3 + 2) _ _ (0, 0) _ h2, setRow_setRow, setRow_setRow, hC]
    rw [e]
    refine ⟨⟨by rw [dcells_len, List.length_set], .inr ⟨g, c, C, by rw [List.length_set], hb, setRow_heap w g cur C _ _ hg, by rw [List.length_set]; exact hn, hm, by rw [hC]; simp [hs], ?_⟩⟩, ⟨rfl, rfl, rfl, by simp, fun j hj hne => setRow_other w g j C (fun e => hne (by rw [e]))⟩⟩
    rw [List.length_set, dcells_set l k x hk, ← ht, hC]
    simp only [Array.toList_setIfInBounds, List.take_set]
theorem OwnD.form {w : World} {base : Nat} {v : Value} {l : List Dv} (h : OwnD w base v l) (h0 : 0 < l.length) : ∃ g c, v = .slice (some ⟨g, 0, none⟩) l.length c := by
  rcases h.2 with ⟨_, h1⟩ | ⟨g, c, cur, rfl, _⟩
  · omega
  · exact ⟨g, c, rfl⟩
theorem OwnD.cellsAt {w : World} {base g n c : Nat} {l : List Dv} (h : OwnD w base (.slice (some ⟨g, 0, none⟩) n c) l) {k : Nat} (hk : k < l.length) : (∀ j, w.frozen? ⟨g, j, none⟩ = false) ∧ ∃ a b d, w.cell? ⟨g, k * 3, none⟩ = some (.string a) ∧ w.cell? ⟨g, k * 3 + 1, none⟩ = some (.string b) ∧ w.cell? ⟨g, k * 3 + 2, none⟩ = some (.string d) := by
  obtain ⟨x, hx⟩ : ∃ x, l[k]? = some x := ⟨_, List.getElem?_eq_getElem hk⟩
  have hc := World.ownsRow.cells h (g := g) rfl
  obtain ⟨e0, e1, e2⟩ := dcells_at l k x hx
  have c0 := hc _ _ e0
  have c1 := hc _ _ e1
  have c2 := hc _ _ e2
  rw [Addr.add_lit, Nat.zero_add] at c0 c1 c2
  refine ⟨fun j => ?_, _, _, _, c0, c1, c2⟩
  rcases h.2 with ⟨h0, _⟩ | ⟨g', c', cur, hv, hb, hg, _⟩
  · simp at h0
  · simp only [Value.slice.injEq, Option.some.injEq, Addr.mk.injEq] at hv
    obtain ⟨⟨rfl, _⟩, _⟩ := hv
    simp [World.frozen?, hg]
theorem own_ne {w : World} {base : Nat} {v : Value} {l : List Dv} (h : OwnD w base v l) : v.ownBlock ≠ some w.heap.size := fun e => by have := (World.ownsRow.lt h _ e).2; omega
theorem OwnD.mono {w : World} {base B : Nat} {v : Value} {l : List Dv} (h : OwnD w base v l) (hB : B ≤ base) : OwnD w B v l := by
  refine ⟨h.1, ?_⟩
  rcases h.2 with hn | ⟨g, cap, cur, hv, hb', rest⟩
  · exact .inl hn
  · exact .inr ⟨g, cap, cur, hv, by omega, rest⟩
abbrev PutK (w3 : World) (B1 B2 : Nat) (K K2 K3 : ByteArray) (W : World) : Prop :=
  W.cell? ⟨B1, 0, none⟩ = some (.func (.func 69) #[] #[]) ∧ W.cell? ⟨B2, 0, none⟩ = some (.string K) ∧ W.cell? ⟨B2, 1, none⟩ = some (.string K2) ∧ W.cell? ⟨B2, 2, none⟩ = some (.string K3) ∧ Below w3.heap.size w3 W
theorem PutK.on {w : World} {B1 B2 : Nat} {K K2 K3 : ByteArray} {W W1 : World} (h : PutK w B1 B2 K K2 K3 W) (hb : Below W.heap.size W W1) : PutK w B1 B2 K K2 K3 W1 := by
  obtain ⟨h2, g0, g1, g2, h4⟩ := h
  obtain ⟨z0, z1, z2⟩ := (show At3 W B2 K K2 K3 from ⟨g0, g1, g2⟩).on hb
  exact ⟨(hb.cell (World.block_lt_of_cell? W _ h2)).trans h2, z0, z1, z2, h4.trans (hb.mono h4.size)⟩
theorem PutK.dr {w : World} {B1 B2 : Nat} {K K2 K3 : ByteArray} {W : World} (h : PutK w B1 B2 K K2 K3 W) : PutK w B1 B2 K K2 K3 W.drew := h.on (Below.refl _ _).drew
theorem PutK.be {w : World} {B1 B2 : Nat} {K K2 K3 : ByteArray} {W : World} (h : PutK w B1 B2 K K2 K3 W) : Below w.heap.size w W := h.2.2.2.2
set_option maxRecDepth 100000 in
set_option maxHeartbeats 8000000 in
theorem kput_old (v : Value) (l : List Dv) (hl : l.length ≤ 90000) (x : Dv) (w : World) (h : HoldD w v l) (k0 : Nat) (hk0 : l.findIdx? (pathIs x.1) = some k0) : Calls Tryd.prog 68 #[v, pathF, aggX x] w (PutPost l x w) := by
  have hi0 : idxD l (pathIs x.1) = (k0 : Int) := by unfold idxD; rw [hk0]
  have hP : putD l x = l.set k0 x := by unfold putD; rw [hk0]
  have hkl : k0 < l.length := (List.findIdx?_eq_some_iff_getElem.1 hk0).1
  have HP : Hid (∀ v w', HoldD w' v (l.set k0 x) → Below w.heap.size w w' → PutPost l x w (.returned v) w') := Lib.hid (fun v w' h1 h2 => ⟨v, rfl, by rw [hP]; exact h1, h2⟩)
  have HSET := Lib.hid (fun (W : World) (base g n c : Nat) (h : OwnD W base (.slice (some ⟨g, 0, none⟩) n c) l) => own_set h hkl x)
  have HFORM := Lib.hid (fun (W : World) (base : Nat) (u : Value) (h : OwnD W base u l) => OwnD.form h (by omega))
  have HCELL := Lib.hid (fun (W : World) (base g n c : Nat) (h : OwnD W base (.slice (some ⟨g, 0, none⟩) n c) l) => OwnD.cellsAt h hkl)
  have CA := fun W (hb : Below w.heap.size w W) => clone_any v l hl W (HoldR.on h hb)
  have KF := fun W (hb : Below w.heap.size w W) => kfind_any v l hl (bsA x.1) W (HoldR.on h hb)
  have PA := fun a b c w => pathOf_any a b c w
  unfold ClonePost at CA
  unfold pathF at KF ⊢
  unfold aggD at PA
  rw [bytesOf, hi0] at KF
  have B2 := ((Below.refl w.heap.size w).alloc (Nat.le_refl _) (.cells #[pathF] 96)).alloc (by simp) (.cells #[.string (bsA x.1), .string (bsA x.2.1), .string (bsA x.2.2)] 54)
  have q1 := (Boxed.new w 96 pathF).alloc (.cells #[.string (bsA x.1), .string (bsA x.2.1), .string (bsA x.2.2)] 54)
  have q2 := box3 (w.alloc (.cells #[pathF] 96)) (bsA x.1) (bsA x.2.1) (bsA x.2.2) 54
  rw [World.size_alloc] at q2
  have c1 := q1.cell
  have HPK0 := Lib.hid (show PutK (((w.alloc (.cells #[pathF] 96)).alloc (.cells #[.string (bsA x.1), .string (bsA x.2.1), .string (bsA x.2.2)] 54))) w.heap.size (w.heap.size + 1) (bsA x.1) (bsA x.2.1) (bsA x.2.2) _ from ⟨c1, q2.1, q2.2.1, q2.2.2, Below.refl _ _⟩)
  have HB2 := Lib.hid B2
  obtain ⟨a, c, b, o, rfl, -, -, -⟩ := h.parts
  unfold aggX aggD
  clear B2 q1 q2 c1 h hk0 hi0 hP
  generalize bsA x.1 = X at *
  generalize bsA x.2.1 = Y at *
  generalize bsA x.2.2 = Z at *
  generalize l.length = n at *
  go_enter Tryd.func68, Tryd.ntmps68
  unfold pathF at HPK0 HB2
  go_wp2_with (go_at_call 91; refine (CA _ HB2.out).mono ?_; rintro e w3 ⟨v3, rfl, ho, hb⟩; have HO3 := Lib.hid ho; obtain ⟨g, cg, rfl⟩ := HFORM.out _ _ _ ho; have HPK := Lib.hid (show PutK w3 _ _ X Y Z w3 from ⟨(HPK0.out.on hb).1, (HPK0.out.on hb).2.1, (HPK0.out.on hb).2.2.1, (HPK0.out.on hb).2.2.2.1, Below.refl _ _⟩); have HB3 := Lib.hid (HB2.out.trans (hb.mono HB2.out.size)); clear ho hb)
  have hsz3 := HB3.out.size
  have hs := HPK.out
  obtain ⟨k1, k2, k3, k4, hB⟩ := HPK.out
  clear CA
  go_region_held3 (fun V => V.cell? ⟨w.heap.size, 0, none⟩ = some (.func (.func 69) #[] #[]) ∧ V.cell? ⟨w.heap.size + 1, 0, none⟩ = some (.string X) ∧ V.cell? ⟨w.heap.size + 1, 1, none⟩ = some (.string Y) ∧ V.cell? ⟨w.heap.size + 1, 2, none⟩ = some (.string Z) ∧ Below w3.heap.size w3 V)
    (first | assumption | exact hs | exact PutK.dr hs | exact PutK.on (by assumption) (by assumption))
    ((first
      | (go_at_call 69; refine (PA _ _ _ _).mono ?_; rintro e w4 ⟨rfl, hb⟩)
      | (go_at_call 71; (with_reducible refine (KF _ (HB3.out.trans (Below.mono (PutK.be (B1 := w.heap.size) (B2 := w.heap.size + 1) (K := X) (K2 := Y) (K3 := Z) (by assumption)) hsz3))).mono ?_); rintro e w4 ⟨rfl, hb⟩)))
  all_goals
    rename_i hHeld
    obtain ⟨-, e0, e1, e2, hB4⟩ := hHeld
    have HO4 := Lib.hid (show OwnD w4 _ _ l from World.ownsRow.kept HO3.out (grown_of hB4) (nn_of _))
    have HB4 := Lib.hid (HB3.out.trans (hB4.mono hsz3))
    obtain ⟨fz, d0, d1, d2, r0, r1, r2⟩ := HCELL.out _ _ _ _ _ HO4.out
    have f0 := fz (k0 * 3)
    have f1 := fz (k0 * 3 + 1)
    have f2 := fz (k0 * 3 + 2)
    have hS := Lib.hid (HSET.out _ _ _ _ _ HO4.out)
    have hlt := (World.ownsRow.lt HO4.out g rfl)
    clear hB4 hs fz HSET HCELL HFORM KF HPK HPK0 k1 k2 k3 k4 hB
    go_wp2
    go_ret
    exact HP.out _ _ hS.out.1.holds (HB4.out.grown hS.out.2 HB4.out.size (fun k hk => by cases hk; have := hlt.1; rw [World.size_alloc, World.size_alloc] at this; omega))
theorem overs_none {l : List Dv} {p : Bs} : idxD l (overB p) = -1 ∧ cutD l p = l.length ∨ ∃ k : Nat, idxD l (overB p) = k ∧ cutD l p = k ∧ k < l.length := by
  unfold idxD cutD
  cases h : l.findIdx? (overB p) with
  | none => exact .inl ⟨rfl, rfl⟩
  | some k => exact .inr ⟨k, rfl, rfl, (List.findIdx?_eq_some_iff_getElem.1 h).1⟩
theorem OwnD.putAt {w' : World} {base : Nat} {v' : Value} {l : List Dv} {x : Dv} {i : Nat} (hi : i ≤ l.length) (h : w'.ownsRow base 54 3 v' (l.length + 1) ((dcells l).take (i * 3) ++ [.string (bsA x.1), .string (bsA x.2.1), .string (bsA x.2.2)] ++ (dcells l).drop (i * 3))) : OwnD w' base v' (l.take i ++ x :: l.drop i) := by
  have e1 : ∀ m, m = l.take i → m.length = i → dcells l = dcells m ++ dcells (l.drop i) := fun m hm _ => by
    rw [hm, ← List.flatMap_append, List.take_append_drop]
  have e := e1 _ rfl (by rw [List.length_take]; omega)
  have hl : (dcells (l.take i)).length = i * 3 := by rw [dcells_len, List.length_take]; congr 1; omega
  unfold OwnD
  have e2 : dcells (l.take i ++ x :: l.drop i) = dcells (l.take i) ++ [.string (bsA x.1), .string (bsA x.2.1), .string (bsA x.2.2)] ++ dcells (l.drop i) := by
    simp only [dcells, List.flatMap_append, List.flatMap_cons, List.append_assoc]
  rw [e2, show (l.take i ++ x :: l.drop i).length = l.length + 1 by simp; omega]
  rw [e, List.take_left' hl, List.drop_left' hl] at h
  exact h
set_option maxRecDepth 100000 in
set_option maxHeartbeats 8000000 in
theorem kput_new (v : Value) (l : List Dv) (hl : l.length ≤ 90000) (x : Dv) (w : World) (h : HoldD w v l) (hk0 : l.findIdx? (pathIs x.1) = none) : Calls Tryd.prog 68 #[v, pathF, aggX x] w (PutPost l x w) := by
  have hi0 : idxD l (pathIs x.1) = -1 := by unfold idxD; rw [hk0]
  have hP : putD l x = l.take (cutD l x.1) ++ x :: l.drop (cutD l x.1) := by unfold putD; rw [hk0]
  obtain ⟨m, hm⟩ : ∃ m, cutD l x.1 = m := ⟨_, rfl⟩
  have hml : m ≤ l.length := by
    rcases overs_none (l := l) (p := x.1) with ⟨-, h2⟩ | ⟨k, -, h2, h3⟩ <;> omega
  have HP : Hid (∀ v w', HoldD w' v (l.take m ++ x :: l.drop m) → Below w.heap.size w w' → PutPost l x w (.returned v) w') := Lib.hid (fun v w' h1 h2 => ⟨v, rfl, by rw [hP, hm]; exact h1, h2⟩)
  have CA := fun W (hb : Below w.heap.size w W) => clone_any v l hl W (HoldR.on h hb)
  have KF := fun W (hb : Below w.heap.size w W) => kfind_any v l hl (bsA x.1) W (HoldR.on h hb)
  have PA := fun a b c w => pathOf_any a b c w
  have IX := fun W (hb : Below w.heap.size w W) (h1 : W.cell? ⟨w.heap.size, 0, none⟩ = some (.func (.func 69) #[] #[])) (h2 : At3 W (w.heap.size + 1) (bsA x.1) (bsA x.2.1) (bsA x.2.2)) => idx_dv 93 #[.pointer (some ⟨w.heap.size, 0, none⟩), .pointer (some ⟨w.heap.size + 1, 0, none⟩)] (enters_of Tryd.func93 (by kernel_rfl) rfl) (overB (bsA x.1).data.toList) v l hl W (HoldR.on h hb) (fun W2 y hb2 _ => putp_any _ _ _ _ _ y W2 ((hb2.cell (World.block_lt_of_cell? W _ h1)).trans h1) (h2.on hb2))
  have INS := Lib.hid (fun (base : Nat) (u : Value) (W : World) (ho : OwnD W base u l) (vb : Nat) (vt : TypeId) (hv : W.heap[vb]? = some (.cells #[.string (bsA x.1), .string (bsA x.2.1), .string (bsA x.2.2)] vt (0, 0))) (hne : u.ownBlock ≠ some vb) (hbase : base ≤ W.heap.size) =>
    (insert_own base l.length u (dcells l) [.string (bsA x.1), .string (bsA x.2.1), .string (bsA x.2.2)] W ho (dcells_one l) m hml hl vb vt rfl hv (by intro t ht; simp at ht; rcases ht with rfl | rfl | rfl <;> rfl) hne hbase).mono (fun e w' ⟨v', he, h1, h2⟩ => (⟨v', he, OwnD.putAt hml h1, h2⟩ : ∃ v', e = Ending.returned v' ∧ OwnD w' base v' (l.take m ++ x :: l.drop m) ∧ W.grownBy w' u.ownBlock)))
  unfold ClonePost at CA
  unfold pathF at KF ⊢
  unfold aggD at PA
  rw [bytesOf, hi0] at KF
  rw [bytesOf] at IX
  have HW : Hid (idxD l (overB x.1) = -1 ∧ m = l.length ∨ ∃ k : Nat, idxD l (overB x.1) = k ∧ m = k ∧ k < l.length) := Lib.hid (by rw [← hm]; exact overs_none)
  have B2 := ((Below.refl w.heap.size w).alloc (Nat.le_refl _) (.cells #[pathF] 96)).alloc (by simp) (.cells #[.string (bsA x.1), .string (bsA x.2.1), .string (bsA x.2.2)] 54)
  have q1 := (Boxed.new w 96 pathF).alloc (.cells #[.string (bsA x.1), .string (bsA x.2.1), .string (bsA x.2.2)] 54)
  have q2 := box3 (w.alloc (.cells #[pathF] 96)) (bsA x.1) (bsA x.2.1) (bsA x.2.2) 54
  rw [World.size_alloc] at q2
  have c1 := q1.cell
  have HPK0 := Lib.hid (show PutK (((w.alloc (.cells #[pathF] 96)).alloc (.cells #[.string (bsA x.1), .string (bsA x.2.1), .string (bsA x.2.2)] 54))) w.heap.size (w.heap.size + 1) (bsA x.1) (bsA x.2.1) (bsA x.2.2) _ from ⟨c1, q2.1, q2.2.1, q2.2.2, Below.refl _ _⟩)
  have HB2 := Lib.hid B2
  obtain ⟨a, c, b, o, rfl, -, -, -⟩ := h.parts
  unfold aggX aggD
  clear B2 q1 q2 c1 h hk0 hi0 hP hm
  generalize idxD l (overB x.1) = z at *
  generalize bsA x.1 = X at *
  generalize bsA x.2.1 = Y at *
  generalize bsA x.2.2 = Z at *
  have HNN := Lib.hid hl
  generalize l.length = n at *
  go_enter Tryd.func68, Tryd.ntmps68
  unfold pathF at HPK0 HB2
  go_wp2_with (go_at_call 91; refine (CA _ HB2.out).mono ?_; rintro e w3 ⟨v3, rfl, ho, hb⟩; have HO3 := Lib.hid (OwnD.mono ho HB2.out.size); have HPK := Lib.hid (show PutK w3 _ _ X Y Z w3 from ⟨(HPK0.out.on hb).1, (HPK0.out.on hb).2.1, (HPK0.out.on hb).2.2.1, (HPK0.out.on hb).2.2.2.1, Below.refl _ _⟩); have HB3 := Lib.hid (HB2.out.trans (hb.mono HB2.out.size)); have hz3 := hb.size; clear ho hb)
  have hsz3 := HB3.out.size
  have hs := HPK.out
  obtain ⟨k1, k2, k3, k4, hB⟩ := HPK.out
  clear CA
  go_region_held3 (fun V => V.cell? ⟨w.heap.size, 0, none⟩ = some (.func (.func 69) #[] #[]) ∧ V.cell? ⟨w.heap.size + 1, 0, none⟩ = some (.string X) ∧ V.cell? ⟨w.heap.size + 1, 1, none⟩ = some (.string Y) ∧ V.cell? ⟨w.heap.size + 1, 2, none⟩ = some (.string Z) ∧ Below w3.heap.size w3 V)
    (first | assumption | exact hs | exact PutK.dr hs | exact PutK.on (by assumption) (by assumption))
    ((first
      | (go_at_call 69; refine (PA _ _ _ _).mono ?_; rintro e w4 ⟨rfl, hb⟩)
      | (go_at_call 71; (with_reducible refine (KF _ (HB3.out.trans (Below.mono (PutK.be (B1 := w.heap.size) (B2 := w.heap.size + 1) (K := X) (K2 := Y) (K3 := Z) (by assumption)) hsz3))).mono ?_); rintro e w4 ⟨rfl, hb⟩)))
  all_goals
    rename_i hHeld
    have HPK4 := Lib.hid (show PutK w4 _ _ X Y Z w4 from ⟨hHeld.1, hHeld.2.1, hHeld.2.2.1, hHeld.2.2.2.1, Below.refl _ _⟩)
    obtain ⟨-, -, -, -, hB4⟩ := hHeld
    have HO4 := Lib.hid (show OwnD w4 _ _ l from World.ownsRow.kept HO3.out (grown_of hB4) (nn_of _))
    have HB4 := Lib.hid (HB3.out.trans (hB4.mono hsz3))
    have IX4 := IX _ HB4.out HPK4.out.1 ⟨HPK4.out.2.1, HPK4.out.2.2.1, HPK4.out.2.2.2.1⟩
    clear hB4 hs KF HPK HPK0 k1 k2 k3 k4 hB IX
    rcases HW.out with ⟨hz, hm⟩ | ⟨q, hz, hm, hq⟩
    · subst hz hm
      go_wp2_with (first
        | (go_at_call 92; (with_reducible refine IX4.mono ?_); rintro e w5 ⟨rfl, hb⟩; have HB5 := Lib.hid (HB4.out.trans (hb.mono HB4.out.size)); have hz5 := HB5.out.size; have HO5 := Lib.hid (show OwnD w5 w.heap.size v3 l from World.ownsRow.kept HO4.out (grown_of hb) (nn_of _)); obtain ⟨-, e0, e1, e2, -⟩ := HPK4.out.on hb; clear hb IX4)
        | (go_at_call 94; refine (INS.out _ _ _ (World.ownsRow.alloc HO5.out _) _ _ (heap_alloc_new _ _) (own_ne HO5.out) (by rw [World.size_alloc]; omega)).mono ?_; rintro e w6 ⟨v6, rfl, h1, h2⟩; have HH6 := Lib.hid h1.holds; have HB6 := Lib.hid (OwnD.below HB5.out HO5.out h2 (Nat.le_refl _) hz5); clear h1 h2))
      go_ret
      exact HP.out _ _ HH6.out HB6.out
    · subst hz hm
      have hq0 : (0 : Int) ≤ (m : Int) := by omega
      go_wp2_with (first
        | (go_at_call 92; (with_reducible refine IX4.mono ?_); rintro e w5 ⟨rfl, hb⟩; have HB5 := Lib.hid (HB4.out.trans (hb.mono HB4.out.size)); have hz5 := HB5.out.size; have HO5 := Lib.hid (show OwnD w5 w.heap.size v3 l from World.ownsRow.kept HO4.out (grown_of hb) (nn_of _)); obtain ⟨-, e0, e1, e2, -⟩ := HPK4.out.on hb; clear hb IX4)
        | (go_at_call 94; refine (INS.out _ _ _ (World.ownsRow.alloc HO5.out _) _ _ (heap_alloc_new _ _) (own_ne HO5.out) (by rw [World.size_alloc]; omega)).mono ?_; rintro e w6 ⟨v6, rfl, h1, h2⟩; have HH6 := Lib.hid h1.holds; have HB6 := Lib.hid (OwnD.below HB5.out HO5.out h2 (Nat.le_refl _) hz5); clear h1 h2))
      go_ret
      exact HP.out _ _ HH6.out HB6.out
theorem kput_any (v : Value) (l : List Dv) (hl : l.length ≤ 90000) (x : Dv) (w : World) (h : HoldD w v l) : Calls Tryd.prog 68 #[v, pathF, aggX x] w (PutPost l x w) := by
  cases hk0 : l.findIdx? (pathIs x.1) with
  | none => exact kput_new v l hl x w h hk0
  | some k0 => exact kput_old v l hl x w h k0 hk0
set_option maxRecDepth 100000 in
set_option maxHeartbeats 4000000 in
theorem put_any (v : Value) (l : List Dv) (hl : l.length ≤ 90000) (x : Dv) (w : World) (h : HoldD w v l) : Calls Tryd.prog 33 #[v, aggX x] w (PutPost l x w) := by
  have B0 := (Below.refl w.heap.size w).alloc (Nat.le_refl _) (.cells #[.string (bsA x.1), .string (bsA x.2.1), .string (bsA x.2.2)] 54)
  have I := kput_any v l hl x _ (HoldR.on h B0)
  have HB0 := Lib.hid B0
  obtain ⟨x0, x1, x2⟩ := box3 w (bsA x.1) (bsA x.2.1) (bsA x.2.2) 54
  have HP : Hid (∀ v w', HoldD w' v (putD l x) → Below w.heap.size w w' → PutPost l x w (.returned v) w') := Lib.hid (fun v w' h1 h2 => ⟨v, rfl, h1, h2⟩)
  obtain ⟨a, c, b, o, rfl, -, -, -⟩ := h.parts
  unfold PutPost pathF aggX aggD at I
  unfold aggX aggD
  clear h hl B0
  generalize l.length = n at *
  generalize bsA x.1 = X at *
  generalize bsA x.2.1 = Y at *
  generalize bsA x.2.2 = Z at *
  go_enter Tryd.func33, Tryd.ntmps33
  go_wp2_with (go_at_call 68; refine I.mono ?_; rintro e w1 ⟨v1, rfl, h1, hb⟩; have HO := Lib.hid h1; have HB := Lib.hid (HB0.out.trans (hb.mono HB0.out.size)); clear hb h1)
  go_ret
  exact HP.out _ _ HO.out HB.out
end Go.Proofs.YtogkickaebmeoaaDoor
