/-
  The Lose of the program and of the reference; nothing old turns.
-/
import Derived.Test.YtogkickaebmeoaaDoorTDel
import Derived.Test.YtogkickaebmeoaaDoorTClone
import Derived.BigRegion
namespace Go.Proofs.YtogkickaebmeoaaDoor
open Go.RowKit
theorem lcells_set : ∀ (l : List Lp) (k : Nat) (x : Lp), k < l.length → lcells (l.set k x) = ((lcells l).set (k * 2) (.string (bsT x.1.1))).set (k * 2 + 1) x.2
  | [], k, x, h => by simp at h
  | g :: l, 0, x, h => by simp [lcells]
  | g :: l, k + 1, x, h => by
    have := lcells_set l k x (by simpa using h)
    rw [List.set_cons_succ, show (k + 1) * 2 = k * 2 + 1 + 1 by omega, show k * 2 + 1 + 1 + 1 = k * 2 + 1 + 1 + 1 by omega]
    simp only [lcells, List.flatMap_cons, List.cons_append, List.nil_append, List.set_cons_succ]
    rw [show (List.flatMap (fun p : Lp => [Value.string (bsT p.1.1), p.2]) (l.set k x)) = lcells (l.set k x) from rfl, this]
theorem OwnC.form {w : World} {base : Nat} {v : Value} {l : List Lp} (h : OwnC w base v l) (h0 : 0 < l.length) : ∃ g c, v = .slice (some ⟨g, 0, none⟩) l.length c := by
  rcases h.2 with ⟨_, h1⟩ | ⟨g, c, cur, rfl, _⟩
  · omega
  · exact ⟨g, c, rfl⟩
theorem OwnC.cellsAt {w : World} {base g n c : Nat} {l : List Lp} (h : OwnC w base (.slice (some ⟨g, 0, none⟩) n c) l) {k : Nat} (hk : k < l.length) : (∀ j, w.frozen? ⟨g, j, none⟩ = false) ∧ ∃ a b, w.cell? ⟨g, k * 2, none⟩ = some a ∧ w.cell? ⟨g, k * 2 + 1, none⟩ = some b := by
  obtain ⟨x, hx⟩ : ∃ x, l[k]? = some x := ⟨_, List.getElem?_eq_getElem hk⟩
  have hc := World.ownsRow.cells h (g := g) rfl
  obtain ⟨e0, e1⟩ := lcells_at l k x hx
  have c0 := hc _ _ e0
  have c1 := hc _ _ e1
  rw [Addr.add_lit, Nat.zero_add] at c0 c1
  refine ⟨fun j => ?_, _, _, c0, c1⟩
  rcases h.2 with ⟨h0, _⟩ | ⟨g', c', cur, hv, hb, hg, _⟩
  · simp at h0
  · simp only [Value.slice.injEq, Option.some.injEq, Addr.mk.injEq] at hv
    obtain ⟨⟨rfl, _⟩, _⟩ := hv
    simp [World.frozen?, hg]

theorem own_emptyS (w : World) (base : Nat) (hb : base ≤ w.heap.size) : OwnT (w.alloc (.cells #[] 9)) base (.slice (some ⟨w.heap.size, 0, none⟩) 0 0) [] :=
  ⟨rfl, .inr ⟨w.heap.size, 0, #[], rfl, hb, World.alloc_heap_new w _, Nat.le_refl _, Nat.zero_le _, rfl, rfl⟩⟩
def ClonePostS (l : List Bs) (w : World) (e : Ending) (w' : World) : Prop := ∃ v, e = .returned v ∧ OwnT w' w.heap.size v l ∧ Below w.heap.size w w'
set_option maxRecDepth 100000 in
set_option maxHeartbeats 4000000 in
theorem cloneS_any (v : Value) (l : List Bs) (hl : l.length ≤ 90000) (w : World) (h : HoldT w v l) : Calls Tryd.prog 62 #[v] w (ClonePostS l w) := by
  obtain ⟨a, c, b, o, rfl, hc, ha, hcell⟩ := h
  have HC := Lib.hid hcell
  obtain ⟨i0, hi, hz0, hz1, hz2'⟩ := info_parts infoT
  have HB1 := Lib.hid ((Below.refl w.heap.size w).alloc (Nat.le_refl _) (.cells #[] 9))
  have HE := Lib.hid (own_emptyS w w.heap.size (Nat.le_refl _))
  have HD := Lib.hid (show (txts l).length = l.length ∧ (∀ u ∈ txts l, u.oneCell' = true) from ⟨by simp [txts], fun u hu => by simp only [txts, List.mem_map] at hu; obtain ⟨x, -, rfl⟩ := hu; rfl⟩)
  obtain ⟨n, hN⟩ : ∃ n, l.length = n := ⟨_, rfl⟩
  rw [hN] at hc ha hl ⊢
  have HN := Lib.hid hN
  clear hcell hN
  have hq : ∀ (w : World) (a : Option Addr) (n c n' c' : Nat), (binOp .eql 22 (.slice a n c) (.slice none n' c')).run Tryd.prog w = .ok (.bool a.isNone) w := fun w a n c n' c' => Lib.run_eql_slice_nil w _ _ a n c n' c' Tryd.underlying22
  cases a with
  | none =>
    have hn : n = 0 := by
      by_cases g : 0 < n
      · cases (ha g).1
      · omega
    have HL : Hid (l = []) := Lib.hid (List.eq_nil_of_length_eq_zero (by rw [HN.out, hn]))
    subst hn
    go_enter Tryd.func62, Tryd.ntmps62
    go_wp2
    go_ret
    exact ⟨_, rfl, by rw [HL.out]; exact OwnT.nil _ _, Below.refl _ _⟩
  | some A =>
    have HNW : Hid (∀ (j : Nat) u, (txts l)[j]? = some u → (w.alloc (.cells #[] 9)).cell? (A.add j) = some u) := Lib.hid (fun j u hu => by
      rw [List.getElem?_map] at hu
      cases hx : l[j]? with
      | none => rw [hx] at hu; cases hu
      | some x =>
        rw [hx] at hu
        obtain rfl := Option.some.inj hu
        have htn : j < n := by rw [← HN.out]; exact (List.getElem?_eq_some_iff.1 hx).1
        obtain ⟨e, hbw⟩ := ha (by omega)
        cases e
        rw [Addr.add_lit]
        exact (HB1.out.cell (p := ⟨b, o + j, none⟩) hbw).trans (HC.out j x hx))
    clear ha
    go_enter Tryd.func62, Tryd.ntmps62
    go_wp2_with (at_builtin; refine wpList_append_own _ rfl _ _ 22 rfl w.heap.size 9 i0 _ 1 16 Tryd.underlying22 hi hz0 hz1 hz2' rfl (by decide) _ 0 [] rfl HE.out A n _ (txts l) rfl (by rw [HD.out.1, HN.out, Nat.mul_one]) HNW.out HD.out.2 (by unfold maxLen; omega) (by omega) (by simp) ?_)
    intro v' w3 hown' hgrow _
    have HO : Hid (OwnT w3 w.heap.size v' l) := Lib.hid (by unfold OwnT; rw [HN.out]; simpa using hown')
    have HB : Hid (Below w.heap.size w w3) := Lib.hid (HB1.out.grown hgrow (by simp) (fun k hk => by simp [Value.ownBlock] at hk; omega))
    clear hown' hgrow
    go_wp2
    go_ret
    exact ⟨_, rfl, HO.out, HB.out⟩

def pathsAt (L : List Lp) (k : Nat) : List Bs := match L[k]? with
  | some q => q.1.2
  | none => []
def loseF (L : List Lp) (n : Bs) (ps : List Bs) : List Ls := match L.findIdx? (nameIs n) with
  | none => L.map (·.1)
  | some k => (L.map (·.1)).set k (n, minusS (pathsAt L k) ps)
def LosePost (L : List Lp) (n : Bs) (ps : List Bs) (w : World) (e : Ending) (w' : World) : Prop := ∃ v M, e = .returned v ∧ HoldL w' v M ∧ M.map (·.1) = loseF L n ps ∧ Below w.heap.size w w'
theorem lcells_set1 (l : List Lp) (k : Nat) (q : Lp) (m : List Bs) (u : Value) (hq : l[k]? = some q) : lcells (l.set k ((q.1.1, m), u)) = (lcells l).set (k * 2 + 1) u := by
  have hk := (List.getElem?_eq_some_iff.1 hq).1
  rw [lcells_set l k _ hk]
  obtain ⟨e0, -⟩ := lcells_at l k q hq
  dsimp only
  rw [show (lcells l).set (k * 2) (.string (bsT q.1.1)) = lcells l from by
    obtain ⟨h1, h2⟩ := List.getElem?_eq_some_iff.1 e0
    rw [← h2]; exact List.set_getElem_self h1]
theorem ownL_set1 {w : World} {base g n c : Nat} {l : List Lp} (h : OwnC w base (.slice (some ⟨g, 0, none⟩) n c) l) {k : Nat} {q : Lp} (hq : l[k]? = some q) (m : List Bs) (u : Value) :
    OwnC (w.setCell ⟨g, k * 2 + 1, none⟩ u) base (.slice (some ⟨g, 0, none⟩) n c) (l.set k ((q.1.1, m), u)) ∧ w.grownBy (w.setCell ⟨g, k * 2 + 1, none⟩ u) (some g) := by
  rcases h.2 with ⟨h0, _⟩ | ⟨g', c', cur, hv, hb, hg, hn, hm, hs, ht⟩
  · simp at h0
  · simp only [Value.slice.injEq, Option.some.injEq, Addr.mk.injEq, and_true] at hv
    obtain ⟨rfl, rfl, rfl⟩ := hv
    rw [setCell_eq_setRow w g (k * 2 + 1) cur _ (0, 0) _ hg]
    refine ⟨⟨by rw [lcells_len, List.length_set], .inr ⟨g, c, _, by rw [List.length_set], hb, setRow_heap w g cur _ _ _ hg, by rw [List.length_set]; exact hn, hm, by simp [hs], ?_⟩⟩, ⟨rfl, rfl, rfl, by simp, fun j hj hne => setRow_other w g j _ (fun e => hne (by rw [e]))⟩⟩
    rw [List.length_set, lcells_set1 l k q m u hq, ← ht]
    simp only [Array.toList_setIfInBounds, List.take_set]
set_option maxRecDepth 100000 in
set_option maxHeartbeats 8000000 in
theorem lose_any (v u : Value) (L : List Lp) (ps : List Bs) (hl : L.length ≤ 90000) (hpl : ∀ q ∈ L, q.1.2.length ≤ 90000) (hps : ps.length ≤ 90000) (N : ByteArray) (w : World) (h : HoldL w v L) (h2 : HoldT w u ps) :
    Calls Tryd.prog 25 #[v, .string N, u] w (LosePost L N.data.toList ps w) := by
  obtain ⟨ua, un, uc, rfl⟩ := HoldT.form2 h2
  have B0 := (Below.refl w.heap.size w).alloc (Nat.le_refl _) (.cells #[.slice ua un uc] 22)
  have HB0 := Lib.hid B0
  have hbx := Boxed.new w 22 (.slice ua un uc)
  obtain ⟨A, hA⟩ : ∃ A, w.alloc (.cells #[.slice ua un uc] 22) = A := ⟨_, rfl⟩
  have hAs : A.heap.size = w.heap.size + 1 := by rw [← hA]; simp
  rw [hA] at HB0 B0 hbx
  have HBX := Lib.hid hbx.cell
  have CA := cloneL_any v L hl A (h.on B0)
  have FA := fun W (hb : Below A.heap.size A W) => find13_any v L hl N W ((h.on B0).on hb)
  unfold ClonePostL at CA
  have HH := Lib.hid (h.on B0)
  have HT := Lib.hid (h2.on B0)
  have HAS := Lib.hid hAs
  cases hf : L.findIdx? (nameIs N.data.toList) with
  | none =>
    have e0 : idxG L (nameIs N.data.toList) = -1 := by unfold idxG; rw [hf]
    have HP : Hid (∀ v w' base, OwnC w' base v L → Below A.heap.size A w' → LosePost L N.data.toList ps w (.returned v) w') := Lib.hid (fun v w' base q1 q2 => ⟨v, L, rfl, q1.holds ((HH.out.1).on q2), by unfold loseF; rw [hf], HB0.out.trans (q2.mono (by omega))⟩)
    obtain ⟨z, hz⟩ : ∃ z, idxG L (nameIs N.data.toList) = z := ⟨_, rfl⟩
    simp only [hz] at FA
    have hz0 : z < 0 := by omega
    obtain ⟨-, a, c, b, o, rfl, -, -, -⟩ := h
    clear hf hz e0 h2 B0 hbx hl hpl hps
    generalize L.length = n at *
    go_enter Tryd.func25, Tryd.ntmps25
    go_wp2_with (first
      | (go_at_call 58; refine CA.mono ?_; rintro e w1 ⟨v1, rfl, ho, hb⟩; have HO1 := Lib.hid ho; have HB1 := Lib.hid hb; clear ho hb)
      | (go_at_call 23; (with_reducible refine (FA _ HB1.out).mono ?_); rintro e w2 ⟨rfl, hb⟩; have HB2 := Lib.hid (HB1.out.trans (hb.mono HB1.out.size)); have HO2 := Lib.hid (show OwnC w2 _ _ L from World.ownsRow.kept HO1.out (grown_ofB hb) (nn_ofB _)); clear hb))
    go_ret
    exact HP.out _ _ _ HO2.out HB2.out
  | some k =>
    obtain ⟨hk, hk1, -⟩ := List.findIdx?_eq_some_iff_getElem.1 hf
    have e0 : idxG L (nameIs N.data.toList) = (k : Int) := by unfold idxG; rw [hf]
    obtain ⟨q, hq⟩ : ∃ q, L[k]? = some q := ⟨_, List.getElem?_eq_getElem hk⟩
    have hqn : q.1.1 = N.data.toList := by
      obtain ⟨_, e⟩ := List.getElem?_eq_some_iff.1 hq
      rw [e] at hk1
      exact of_decide_eq_true hk1
    have hqm := List.mem_of_getElem? hq
    simp only [e0] at FA
    obtain ⟨pa, pn, pc, hqu⟩ := HoldT.form2 (h.1 q hqm)
    have HQT := Lib.hid (fun W (hb : Below A.heap.size A W) => (h.1 q hqm).on (B0.trans (hb.mono (by omega))))
    have CS := fun W (hb : Below A.heap.size A W) => cloneS_any q.2 q.1.2 (hpl q hqm) W ((h.1 q hqm).on (B0.trans (hb.mono (by omega))))
    unfold ClonePostS at CS
    have DA := fun (base : Nat) (v5 : Value) (W : World) (hA5 : A.heap.size ≤ base) (hbW : Below A.heap.size A W) (ho : OwnT W base v5 q.1.2) => delete_any #[.pointer (some ⟨w.heap.size, 0, none⟩)] base v5 q.1.2 ps (hpl q hqm) W ho (fun W2 x hg => by
      have hb2 : Below A.heap.size A W2 := hbW.grown hg hbW.size (fun j hj => Nat.le_trans hA5 (World.ownsRow.lt ho j hj).1)
      exact losep_any w.heap.size (.slice ua un uc) ps hps x W2 ((hb2.cell (p := ⟨w.heap.size, 0, none⟩) (by show w.heap.size < _; omega)).trans hbx.cell) ((h2.on B0).on hb2))
    unfold DelPost at DA
    have HSET := Lib.hid (fun (W : World) (base g n c : Nat) (h : OwnC W base (.slice (some ⟨g, 0, none⟩) n c) L) (x : Value) => ownL_set1 h hq (minusS q.1.2 ps) x)
    have HFORM := Lib.hid (fun (W : World) (base : Nat) (u : Value) (h : OwnC W base u L) => OwnC.form h (by omega))
    have HCELL := Lib.hid (fun (W : World) (base g n c : Nat) (h : OwnC W base (.slice (some ⟨g, 0, none⟩) n c) L) => OwnC.cellsAt h hk)
    have HMAP : Hid (∀ x : Value, (L.set k ((q.1.1, minusS q.1.2 ps), x)).map (·.1) = loseF L N.data.toList ps) := Lib.hid (fun x => by
      unfold loseF pathsAt
      rw [hf]
      dsimp only
      rw [hq, List.map_set, ← hqn])
    have HP : Hid (∀ v w' (x : Value) base, OwnC w' base v (L.set k ((q.1.1, minusS q.1.2 ps), x)) → HoldT w' x (minusS q.1.2 ps) → Below A.heap.size A w' → LosePost L N.data.toList ps w (.returned v) w') := Lib.hid (fun v w' x base q1 q2 q3 => ⟨v, _, rfl, q1.holds (fun p hp => by
      rcases List.mem_or_eq_of_mem_set hp with h1 | h1
      · exact (HH.out.1 p h1).on q3
      · subst h1; exact q2), HMAP.out x, HB0.out.trans (q3.mono (by omega))⟩)
    obtain ⟨-, a, c, b, o, rfl, hc, ha, hcell⟩ := h
    obtain ⟨rfl, hbw⟩ := ha (by omega)
    have hc1 := (hcell k q hq).2
    rw [hqu] at hc1 CS
    have HC1 := Lib.hid (fun W (hb : Below A.heap.size A W) => ((B0.trans (hb.mono (by omega))).cell (p := ⟨b, o + k * 2 + 1, none⟩) hbw).trans hc1)
    clear hf e0 h2 B0 hbx hl hpl hps hcell ha hqu hk1 hqn hqm hq hc1 hbw
    generalize hn : L.length = n at *
    clear hn
    go_enter Tryd.func25, Tryd.ntmps25
    go_wp2_with (first
      | (go_at_call 58; refine CA.mono ?_; rintro e w1 ⟨v1, rfl, ho, hb⟩; have HO1 := Lib.hid ho; obtain ⟨g, cg, rfl⟩ := HFORM.out _ _ _ ho; have HB1 := Lib.hid hb; clear ho hb)
      | (go_at_call 23; (with_reducible refine (FA _ HB1.out).mono ?_); rintro e w2 ⟨rfl, hb⟩; have HB2 := Lib.hid (HB1.out.trans (hb.mono HB1.out.size)); have HO2 := Lib.hid (show OwnC w2 _ _ L from World.ownsRow.kept HO1.out (grown_ofB hb) (nn_ofB _)); have c1 := HC1.out _ HB2.out; clear hb)
      | (go_at_call 62; refine (CS _ HB2.out).mono ?_; rintro e w3 ⟨v3, rfl, ho, hb⟩; have HS3 := Lib.hid ho; have HB3 := Lib.hid (HB2.out.trans (hb.mono HB2.out.size)); have HO3 := Lib.hid (show OwnC w3 _ _ L from World.ownsRow.kept HO2.out (grown_ofB hb) (nn_ofB _)); have DA3 := DA _ _ _ HB2.out.size HB3.out ho; clear ho hb)
      | (go_at_call 61; refine DA3.mono ?_; rintro e w4 ⟨v4, rfl, ho4, hg4⟩; obtain ⟨va, vn, vc, rfl⟩ := HoldT.form2 ho4.holds; have hgl := (World.ownsRow.lt HO2.out g rfl).2; have hgA := (World.ownsRow.lt HO2.out g rfl).1; have hlow := fun j (hj : v3.ownBlock = some j) => (World.ownsRow.lt HS3.out j hj).1; have HB4 := Lib.hid (HB3.out.grown hg4 HB3.out.size (fun j hj => Nat.le_trans HB2.out.size (hlow j hj))); have HO4 := Lib.hid (show OwnC w4 _ _ L from World.ownsRow.kept HO3.out hg4 (.inr (fun e => by have := hlow g e.symm; omega))); have HT4 := Lib.hid ho4.holds; have HAP := Lib.hid (OwnT.apart ho4 (b := g) hgl); obtain ⟨fz, d0, d1, r0, r1⟩ := HCELL.out _ _ _ _ _ HO4.out; have f1 := fz (k * 2 + 1); have HS := Lib.hid (HSET.out _ _ _ _ _ HO4.out (.slice va vn vc)); clear ho4 hg4 hlow fz DA3))
    go_ret
    exact HP.out _ _ _ _ HS.out.1 (HT4.out.set HAP.out _ _) (HB4.out.grown HS.out.2 HB4.out.size (fun j hj => by cases hj; exact hgA))

theorem apart_types {w : World} {b1 b2 : Nat} {v t : Value} {ls : List Bs} {L : List Lp} (h1 : OwnT w b1 v ls) (h2 : OwnC w b2 t L) : v.ownBlock = none ∨ v.ownBlock ≠ t.ownBlock := by
  rcases h1.2 with ⟨rfl, _⟩ | ⟨g, c, cur, rfl, _, hg, _⟩
  · exact .inl rfl
  · refine .inr (fun e => ?_)
    rcases h2.2 with ⟨rfl, _⟩ | ⟨g', c', cur', rfl, _, hg', _⟩
    · cases e
    · simp only [Value.ownBlock, Option.some.injEq] at e
      subst e
      rw [hg] at hg'
      simp at hg'
theorem take_set_at {l : List Lp} {k : Nat} {q y : Lp} (h : l[k]? = some q) : (l.take (k + 1)).set k y = l.take k ++ [y] := by
  have hk := (List.getElem?_eq_some_iff.1 h).1
  have hl : (l.take k).length = k := by rw [List.length_take]; omega
  rw [List.take_add_one, h, List.set_append_right _ _ (by omega), hl, Nat.sub_self]; rfl
theorem take_set_by {l : List Lp} {k k0 : Nat} {q y : Lp} (h : l[k]? = some q) (h0 : k0 < k) : (l.take (k + 1)).set k0 y = (l.take k).set k0 y ++ [q] := by
  have hk := (List.getElem?_eq_some_iff.1 h).1
  have hl : (l.take k).length = k := by rw [List.length_take]; omega
  rw [List.take_add_one, h, List.set_append_left _ _ (by omega)]; rfl
theorem OwnT.put2 {w : World} {base : Nat} {v : Value} {l : List Bs} (h : OwnT w base v l) {b : Nat} (hb : b < base) (x y : Value) : OwnT (put2 w b x y) base v l :=
  ownsRow_setCell_below (ownsRow_setCell_below h (a := ⟨b, 0, none⟩) hb x) (a := ⟨b, 1, none⟩) hb y
set_option maxRecDepth 100000 in
set_option maxHeartbeats 8000000 in
theorem lose_ref (v u : Value) (L : List Lp) (ps : List Bs) (hl : L.length ≤ 90000) (hpl : ∀ q ∈ L, q.1.2.length ≤ 90000) (hps : ps.length ≤ 90000) (N : ByteArray) (w : World) (h : HoldL w v L) (h2 : HoldT w u ps) :
    Calls Tryd.prog 29 #[v, .string N, u] w (LosePost L N.data.toList ps w) := by
  obtain ⟨ua, un, uc, rfl⟩ := HoldT.form2 h2
  have FA := find13_ref v L hl N w h
  obtain ⟨i0, hi, hz0, hz1, hz2'⟩ := info_parts infoL
  have HIN := Lib.hid h.1
  have HPL := Lib.hid hpl
  have HT2 := Lib.hid h2
  cases hf : L.findIdx? (nameIs N.data.toList) with
  | none =>
    have e0 : idxG L (nameIs N.data.toList) = -1 := by unfold idxG; rw [hf]
    have HP : Hid (∀ v w', OwnC w' w.heap.size v L → Below w.heap.size w w' → LosePost L N.data.toList ps w (.returned v) w') := Lib.hid (fun v w' q1 q2 => ⟨v, L, rfl, q1.holds (HIN.out.on q2), by unfold loseF; rw [hf], q2⟩)
    obtain ⟨z, hz⟩ : ∃ z, idxG L (nameIs N.data.toList) = z := ⟨_, rfl⟩
    rw [hz] at FA e0
    have HZ : Hid (∀ k : Nat, ((k : Int) == z) = false) := Lib.hid (fun k => by rw [beq_eq_false_iff_ne]; omega)
    obtain ⟨-, a, c, b, o, rfl, hc, ha, hcell⟩ := h
    have HC := Lib.hid hcell
    obtain ⟨n, hN⟩ : ∃ n, L.length = n := ⟨_, rfl⟩
    rw [hN] at hc ha hl FA ⊢
    have HN := Lib.hid hN
    clear hcell hN hf hz e0 h2 hpl hps
    go_enter Tryd.func29, Tryd.ntmps29
    go_wp2_with (go_at_call 24; refine FA.mono ?_; rintro e w1 ⟨rfl, rfl⟩)
    clear FA
    go_loopw [7, 9] (fun t i wr => ∃ k : Nat, k ≤ n ∧ i = .int .i64 k ∧ Hid (OwnC wr w.heap.size t (L.take k)) ∧ Hid (Below w.heap.size w wr)) (fun _ i _ => n - (intOf i).toNat)
    case atStart => exact ⟨0, by omega, rfl, Lib.hid (OwnC.nil _ _), Lib.hid (Below.refl _ _)⟩
    case round =>
      obtain ⟨k, hk, rfl, HO, HB⟩ := hrel
      have hsz := HB.out.size
      by_cases hlt : k < n
      · obtain ⟨rfl, hbw⟩ := ha (by omega)
        obtain ⟨q, hq⟩ : ∃ q, L[k]? = some q := ⟨_, List.getElem?_eq_getElem (by rw [HN.out]; exact hlt)⟩
        obtain ⟨c0, c1⟩ := HC.out k q hq
        rw [← HB.out.cell (p := ⟨b, o + k * 2, none⟩) hbw] at c0
        rw [← HB.out.cell (p := ⟨b, o + k * 2 + 1, none⟩) hbw] at c1
        obtain ⟨pa, pn, pc, hu⟩ := HoldT.form2 (HIN.out q (List.mem_of_getElem? hq))
        rw [hu] at c1
        have hzk := HZ.out k
        have HE : Hid (L.take (k + 1) = L.take k ++ [q]) := Lib.hid (by rw [List.take_add_one, hq]; rfl)
        have hlen : (L.take k).length ≤ 90000 := by rw [List.length_take]; omega
        generalize hX : bsT q.1.1 = X at *
        have HX := Lib.hid (And.intro hX hu)
        obtain ⟨x0, x1⟩ := box2 wr (.string X) (.slice pa pn pc) 24
        have HB2 := Lib.hid (HB.out.alloc hsz (.cells #[.string X, .slice pa pn pc] 24))
        have HO2 := Lib.hid (show OwnC _ _ _ _ from World.ownsRow.alloc HO.out (.cells #[.string X, .slice pa pn pc] 24))
        obtain ⟨R, hR⟩ : ∃ R, L.take k = R := ⟨_, rfl⟩
        rw [hR] at HO2 HE hlen
        clear hq hX hu hR HO
        go_wp2_with (at_builtin; refine wpList_append_own _ rfl _ _ 25 rfl w.heap.size 24 i0 _ 2 40 Tryd.underlying25 hi hz0 hz1 hz2' rfl (by decide) _ _ _ rfl (World.ownsRow.alloc HO2.out _) ⟨wr.heap.size + 1, 0, none⟩ 1 1 [.string X, .slice pa pn pc] rfl rfl (by have b2 := box2 (wr.alloc (.cells #[.string X, .slice pa pn pc] 24)) (.string X) (.slice pa pn pc) 24; rw [World.size_alloc] at b2; intro j u hj; rw [Addr.add_lit, Nat.zero_add]; match j, hj with | 0, hj => simp at hj; subst hj; exact b2.1 | 1, hj => simp at hj; subst hj; exact b2.2) (by intro u hx; simp at hx; rcases hx with rfl | rfl <;> rfl) (by unfold maxLen; omega) (by omega) (by simp; omega) ?_)
        intro v' w3 hown' hgrow _
        have HO3 : Hid (OwnC w3 w.heap.size v' (L.take (k + 1))) := Lib.hid (by rw [HE.out]; exact OwnC.app HX.out.1 HX.out.2 hown')
        have HB3 : Hid (Below w.heap.size w w3) := Lib.hid (OwnC.below HB2.out HO2.out hgrow (Nat.le_refl _) (by simp; omega))
        clear hown' hgrow
        go_wp2
        go_roundw
        case rel => exact ⟨k + 1, by omega, by go_num, HO3, HB3⟩
        case measure => simp [intOf]; omega
      · obtain rfl : k = n := by omega
        have HF : Hid (L.take k = L) := Lib.hid (by rw [← HN.out, List.take_length])
        rw [HF.out] at HO
        clear hlt
        go_wp2
        go_ret
        exact HP.out _ _ HO.out HB.out
  | some k0 =>
    obtain ⟨hk0, hk1, -⟩ := List.findIdx?_eq_some_iff_getElem.1 hf
    have e0 : idxG L (nameIs N.data.toList) = (k0 : Int) := by unfold idxG; rw [hf]
    obtain ⟨q0, hq0⟩ : ∃ q, L[k0]? = some q := ⟨_, List.getElem?_eq_getElem hk0⟩
    have hqn : q0.1.1 = N.data.toList := by
      obtain ⟨_, e⟩ := List.getElem?_eq_some_iff.1 hq0
      rw [e] at hk1
      exact of_decide_eq_true hk1
    have hqb : bsT q0.1.1 = N := by rw [hqn]
    obtain ⟨mn, hmn⟩ : ∃ mn, minusS q0.1.2 ps = mn := ⟨_, rfl⟩
    have HMAP : Hid (∀ x : Value, (L.set k0 ((q0.1.1, mn), x)).map (·.1) = loseF L N.data.toList ps) := Lib.hid (fun x => by
      unfold loseF pathsAt
      rw [hf]
      dsimp only
      rw [hq0, List.map_set, ← hqn, ← hmn])
    have HP : Hid (∀ v w' (x : Value), OwnC w' w.heap.size v (L.set k0 ((q0.1.1, mn), x)) → HoldT w' x mn → Below w.heap.size w w' → LosePost L N.data.toList ps w (.returned v) w') := Lib.hid (fun v w' x q1 q2 q3 => ⟨v, _, rfl, q1.holds (fun p hp => by
      rcases List.mem_or_eq_of_mem_set hp with h1 | h1
      · exact (HIN.out p h1).on q3
      · subst h1; exact q2), HMAP.out x, q3⟩)
    have MR := fun W (hb : Below w.heap.size w W) => minus_ref q0.2 (.slice ua un uc) q0.1.2 ps (hpl q0 (List.mem_of_getElem? hq0)) hps W ((HIN.out q0 (List.mem_of_getElem? hq0)).on hb) (h2.on hb)
    unfold TPost at MR
    rw [hmn] at MR
    rw [e0] at FA
    have HQ0 := Lib.hid hq0
    have HQB := Lib.hid hqb
    obtain ⟨-, a, c, b, o, rfl, hc, ha, hcell⟩ := h
    have HC := Lib.hid hcell
    obtain ⟨n, hN⟩ : ∃ n, L.length = n := ⟨_, rfl⟩
    rw [hN] at hc ha hl FA hk0 ⊢
    have HN := Lib.hid hN
    clear hcell hN hf e0 h2 hpl hps hk1 hqn hq0 hqb hmn
    go_enter Tryd.func29, Tryd.ntmps29
    go_wp2_with (go_at_call 24; refine FA.mono ?_; rintro e w1 ⟨rfl, rfl⟩)
    clear FA
    go_loopw [7, 9] (fun t i wr => ∃ (k : Nat) (M : List Lp) (x : Value), k ≤ n ∧ i = .int .i64 k ∧ Hid (OwnC wr w.heap.size t M) ∧ Hid (M.length = k ∧ (k ≤ k0 → M = L.take k) ∧ (k0 < k → M = (L.take k).set k0 ((q0.1.1, mn), x) ∧ OwnT wr w.heap.size x mn)) ∧ Hid (Below w.heap.size w wr)) (fun _ i _ => n - (intOf i).toNat)
    case atStart => exact ⟨0, [], .slice none 0 0, by omega, rfl, Lib.hid (OwnC.nil _ _), Lib.hid ⟨rfl, fun _ => rfl, fun h => by omega⟩, Lib.hid (Below.refl _ _)⟩
    case round =>
      obtain ⟨k, M, x, hk, rfl, HO, HM, HB⟩ := hrel
      have hsz := HB.out.size
      by_cases hlt : k < n
      · obtain ⟨rfl, hbw⟩ := ha (by omega)
        obtain ⟨q, hq⟩ : ∃ q, L[k]? = some q := ⟨_, List.getElem?_eq_getElem (by rw [HN.out]; exact hlt)⟩
        obtain ⟨c0, c1⟩ := HC.out k q hq
        rw [← HB.out.cell (p := ⟨b, o + k * 2, none⟩) hbw] at c0
        rw [← HB.out.cell (p := ⟨b, o + k * 2 + 1, none⟩) hbw] at c1
        obtain ⟨pa, pn, pc, hu⟩ := HoldT.form2 (HIN.out q (List.mem_of_getElem? hq))
        rw [hu] at c1
        have hlen : M.length ≤ 90000 := by have := HM.out.1; omega
        by_cases hkk : k = k0
        · have hqq : q = q0 := by rw [← hkk, hq] at HQ0; exact (Option.some.inj HQ0.out)
          subst hkk
          obtain ⟨hM1, hM2, -⟩ := HM.out
          obtain rfl := hM2 (Nat.le_refl _)
          rw [hqq] at c0 hu
          rw [HQB.out] at c0
          obtain ⟨x0, x1⟩ := box2 wr (.string N) (.slice pa pn pc) 24
          have HBx := Lib.hid (Box2.new wr (.string N) (.slice pa pn pc) 24)
          have HB2 := Lib.hid (HB.out.alloc hsz (.cells #[.string N, .slice pa pn pc] 24))
          have HO2 := Lib.hid (show OwnC _ _ _ _ from World.ownsRow.alloc HO.out (.cells #[.string N, .slice pa pn pc] 24))
          have MR2 := MR _ HB2.out
          rw [hu] at MR2
          have HLT := Lib.hid (World.ownsRow.lt HO.out)
          clear hq hqq MR
          have hMk := Lib.hid hM1
          have HTS := Lib.hid (take_set_at (y := ((q0.1.1, mn), Value.slice none 0 0)) HQ0.out)
          have HTS2 := Lib.hid (fun y => take_set_at (y := y) HQ0.out)
          obtain ⟨R, hR⟩ : ∃ R, L.take k = R := ⟨_, rfl⟩
          rw [hR] at HO HO2 HTS2 hlen hMk
          clear HTS HM hM2 hM1 HLT hR
          go_wp2_with (first
            | (go_at_call 30; (with_reducible refine MR2.mono ?_); rintro e w2 ⟨v5, rfl, ho5, hb⟩; obtain ⟨va, vn, vc, rfl⟩ := HoldT.form2 ho5.holds; have hbx := HBx.out.on hb; obtain ⟨t0, t1⟩ := hbx.put (.string N) (.slice va vn vc); obtain ⟨y0, y1, yf⟩ := hbx; have yf0 := yf 0; have yf1 := yf 1; have HWR := Lib.hid (put2_below (((Below.refl wr.heap.size wr).alloc (Nat.le_refl _) (.cells #[.string N, .slice pa pn pc] 24)).trans (hb.mono (by rw [World.size_alloc]; omega))) (Nat.le_refl _) (.string N) (.slice va vn vc)); have HB3 := Lib.hid (HB.out.trans (HWR.out.mono hsz)); have HO3 := Lib.hid (show OwnC _ _ _ _ from World.ownsRow.kept HO.out (grown_ofB HWR.out) (nn_ofB _)); have HX3 := Lib.hid ((OwnT.put2 ho5 (b := wr.heap.size) (by rw [World.size_alloc]; omega) (.string N) (.slice va vn vc)).mono (base' := w.heap.size) (by rw [World.size_alloc]; omega)); have hz2 := HB3.out.size; rw [World.size_setCell, World.size_setCell] at hz2; clear yf HO2 HO hb ho5)
            | (at_builtin; refine wpList_append_own _ rfl _ _ 25 rfl w.heap.size 24 i0 _ 2 40 Tryd.underlying25 hi hz0 hz1 hz2' rfl (by decide) _ _ _ rfl (World.ownsRow.alloc HO3.out _) ⟨w2.heap.size, 0, none⟩ 1 1 [.string N, .slice va vn vc] rfl rfl (by have b2 := box2 (put2 w2 wr.heap.size (.string N) (.slice va vn vc)) (.string N) (.slice va vn vc) 24; rw [World.size_setCell, World.size_setCell] at b2; intro j u hj; rw [Addr.add_lit, Nat.zero_add]; match j, hj with | 0, hj => simp at hj; subst hj; exact b2.1 | 1, hj => simp at hj; subst hj; exact b2.2) (by intro u hx; simp at hx; rcases hx with rfl | rfl <;> rfl) (by unfold maxLen; omega) (by omega) (by simp; omega) ?_))
          intro v' w3 hown' hgrow _
          have HOX3 : Hid (OwnC w3 w.heap.size v' (R ++ [((q0.1.1, mn), Value.slice va vn vc)])) := Lib.hid (OwnC.app (x := ((q0.1.1, mn), Value.slice va vn vc)) HQB.out rfl hown')
          have HX4 : Hid (OwnT w3 w.heap.size (Value.slice va vn vc) mn) := Lib.hid (World.ownsRow.kept (World.ownsRow.alloc HX3.out _) hgrow (apart_types HX3.out HO3.out))
          have HB4 : Hid (Below w.heap.size w w3) := Lib.hid (OwnC.below HB3.out HO3.out hgrow (Nat.le_refl _) HB3.out.size)
          clear hown' hgrow
          go_wp2
          go_roundw
          case rel => exact ⟨k + 1, R ++ [((q0.1.1, mn), Value.slice va vn vc)], Value.slice va vn vc, by omega, by go_num, HOX3, Lib.hid ⟨by have := hMk.out; simp; omega, fun h => by omega, fun _ => ⟨(HTS2.out _).symm, HX4.out⟩⟩, HB4⟩
          case measure => simp [intOf]; omega
        · have hzk : ((k : Int) == (k0 : Int)) = false := by rw [beq_eq_false_iff_ne]; omega
          have hMk := Lib.hid HM.out.1
          have hqH := Lib.hid hq
          obtain ⟨x0, x1⟩ := box2 wr (.string (bsT q.1.1)) (.slice pa pn pc) 24
          have HB2 := Lib.hid (HB.out.alloc hsz (.cells #[.string (bsT q.1.1), .slice pa pn pc] 24))
          have HO2 := Lib.hid (show OwnC _ _ _ _ from World.ownsRow.alloc HO.out (.cells #[.string (bsT q.1.1), .slice pa pn pc] 24))
          have HWR := Lib.hid ((Below.refl wr.heap.size wr).alloc (Nat.le_refl _) (.cells #[.string (bsT q.1.1), .slice pa pn pc] 24))
          generalize hX : bsT q.1.1 = X at *
          have HX := Lib.hid (And.intro hX hu)
          clear hq hX hu MR
          go_wp2_with (at_builtin; refine wpList_append_own _ rfl _ _ 25 rfl w.heap.size 24 i0 _ 2 40 Tryd.underlying25 hi hz0 hz1 hz2' rfl (by decide) _ _ _ rfl (World.ownsRow.alloc HO2.out _) ⟨wr.heap.size + 1, 0, none⟩ 1 1 [.string X, .slice pa pn pc] rfl rfl (by have b2 := box2 (wr.alloc (.cells #[.string X, .slice pa pn pc] 24)) (.string X) (.slice pa pn pc) 24; rw [World.size_alloc] at b2; intro j u hj; rw [Addr.add_lit, Nat.zero_add]; match j, hj with | 0, hj => simp at hj; subst hj; exact b2.1 | 1, hj => simp at hj; subst hj; exact b2.2) (by intro u hx; simp at hx; rcases hx with rfl | rfl <;> rfl) (by unfold maxLen; omega) (by omega) (by simp; omega) ?_)
          intro v' w3 hown' hgrow _
          have HO3 : Hid (OwnC w3 w.heap.size v' (M ++ [q])) := Lib.hid (OwnC.app HX.out.1 HX.out.2 hown')
          have HX3 : Hid (OwnT wr w.heap.size x mn → OwnT w3 w.heap.size x mn) := Lib.hid (fun h => World.ownsRow.kept (World.ownsRow.alloc (World.ownsRow.alloc h _) _) hgrow (apart_types h HO.out))
          have HB3 : Hid (Below w.heap.size w w3) := Lib.hid (OwnC.below HB2.out HO2.out hgrow (Nat.le_refl _) (by simp; omega))
          have HM2 : Hid ((M ++ [q]).length = k + 1 ∧ (k + 1 ≤ k0 → M ++ [q] = L.take (k + 1)) ∧ (k0 < k + 1 → M ++ [q] = (L.take (k + 1)).set k0 ((q0.1.1, mn), x) ∧ OwnT w3 w.heap.size x mn)) := Lib.hid ⟨by have := hMk.out; simp; omega, fun h => by rw [HM.out.2.1 (by omega), List.take_add_one, hqH.out]; rfl, fun h => by
            obtain ⟨e1, e2⟩ := HM.out.2.2 (by omega)
            exact ⟨by rw [take_set_by hqH.out (by omega), ← e1], HX3.out e2⟩⟩
          clear hown' hgrow HM HX3
          go_wp2
          go_roundw
          case rel => exact ⟨k + 1, M ++ [q], x, by omega, by go_num, HO3, HM2, HB3⟩
          case measure => simp [intOf]; omega
      · obtain rfl : k = n := by omega
        obtain ⟨hM1, -, hM3⟩ := HM.out
        obtain ⟨hM4, hM5⟩ := hM3 hk0
        have HF : Hid (M = L.set k0 ((q0.1.1, mn), x)) := Lib.hid (by rw [hM4, ← HN.out, List.take_length])
        have HX := Lib.hid hM5.holds
        clear hlt hM1 hM3 hM4 hM5 HM
        go_wp2
        go_ret
        exact HP.out _ _ x (by rw [← HF.out]; exact HO.out) HX.out HB.out
end Go.Proofs.YtogkickaebmeoaaDoor
