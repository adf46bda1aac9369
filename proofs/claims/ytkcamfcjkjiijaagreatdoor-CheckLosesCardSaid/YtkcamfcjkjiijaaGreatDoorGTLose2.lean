/-
  The Lose of the program and of the reference; nothing old turns.
-/
import Derived.Test.YtkcamfcjkjiijaaGreatDoorGTDel
import Derived.Test.YtkcamfcjkjiijaaGreatDoorGTClone
import Derived.BigRegion
namespace Go.Proofs.YtkcamfcjkjiijaaGreatDoor
open Go.RowKit
theorem lcells_set : ∀ (l : List Lp) (k : Nat) (x : Lp), k < l.length → lcells (l.set k x) = ((lcells l).set (k * 2) (.string (bsT x.1.1))).set (k * 2 + 1) x.2
  | [], k, x, h => by simp at h
  | g :: l, 0, x, h => by simp [lcells]
  | g :: l, k + 1, x, h => by
    have := lcells_set l k x (by simpa using h)
    rw [List.set_cons_succ, show (k + 1) * 2 = k * 2 + 1 + 1 by omega, show k * 2 + 1 + 1 + 1 = k * 2 + 1 + 1 + 1 by omega]
    simp only [lcells, List.flatMap_cons, List.cons_append, List.nil_append, List.set_cons_succ]
    rw [show (List.flatMap (fun p : Lp => [Value.string (bsT p.1.1), p.2]) (l.set k x)) = lcells (l.set k x) from rfl, this]
theorem OwnC.formxT {w : World} {base : Nat} {v : Value} {l : List Lp} (h : OwnC w base v l) (h0 : 0 < l.length) : ∃ g c, v = .slice (some ⟨g, 0, none⟩) l.length c := by
  rcases h.2 with ⟨_, h1⟩ | ⟨g, c, cur, rfl, _⟩
  · omega
  · exact ⟨g, c, rfl⟩
theorem OwnC.cellsAt {w : World} {base g n c : Nat} {l : List Lp} (h : OwnC w base (.slice (some ⟨g, 0, none⟩) n c) l) {k : Nat} (hk : k < l.length) : (∀ j, w.frozen? ⟨g, j, none⟩ = false) ∧ ∃ a b, w.cell? ⟨g, k * 2, none⟩ = some a ∧ w.cell? ⟨g, k * 2 + 1, none⟩ = some b := by
  obtain ⟨x, hx⟩ : ∃ x, l[k]? = some x := ⟨_, List.getElem?_eq_getElem hk⟩
  have hc := World.ownsRow.cells h (g := g) rfl
  obtain ⟨e0, e1⟩ := lcells_at l k x hx
  have c0 := hc _ _ e0
  have c1 := hc _ _ e1
  rw [Addr.add_lit, Nat.zero_add] at c0 c1
  refine ⟨fun j => ?_, _, _, c0, c1⟩
  rcases h.2 with ⟨h0, _⟩ | ⟨g', c', cur, hv, hb, hg, _⟩
  · simp at h0
  · simp only [Value.slice.injEq, Option.some.injEq, Addr.mk.injEq] at hv
    obtain ⟨⟨rfl, _⟩, _⟩ := hv
    simp [World.frozen?, hg]

theorem own_emptyS (w : World) (base : Nat) (hb : base ≤ w.heap.size) : OwnT (w.alloc (.cells #[] 9)) base (.slice (some ⟨w.heap.size, 0, none⟩) 0 0) [] :=
  ⟨rfl, .inr ⟨w.heap.size, 0, #[], rfl, hb, World.alloc_heap_new w _, Nat.le_refl _, Nat.zero_le _, rfl, rfl⟩⟩
def ClonePostS (l : List Bs) (w : World) (e : Ending) (w' : World) : Prop := ∃ v, e = .returned v ∧ OwnT w' w.heap.size v l ∧ Below w.heap.size w w'
set_option maxRecDepth 100000 in
set_option maxHeartbeats 4000000 in
theorem cloneS_any (v : Value) (l : List Bs) (hl : l.length ≤ 90000) (w : World) (h : HoldT w v l) : Calls Tryz.prog 65 #[v] w (ClonePostS l w) := by
  obtain ⟨a, c, b, o, rfl, hc, ha, hcell⟩ := h
  have HC := Lib.hid hcell
  obtain ⟨i0, hi, hz0, hz1, hz2'⟩ := info_parts infoT
  have HB1 := Lib.hid ((Below.refl w.heap.size w).alloc (Nat.le_refl _) (.cells #[] 9))
  have HE := Lib.hid (own_emptyS w w.heap.size (Nat.le_refl _))
  have HD := Lib.hid (show (txts l).length = l.length ∧ (∀ u ∈ txts l, u.oneCell' = true) from ⟨by simp [txts], fun u hu => by simp only [txts, List.mem_map] at hu; obtain ⟨x, -, rfl⟩ := hu; rfl⟩)
  obtain ⟨n, hN⟩ : ∃ n, l.length = n := ⟨_, rfl⟩
  rw [hN] at hc ha hl ⊢
  have HN := Lib.hid hN
  clear hcell hN
  have hq : ∀ (w : World) (a : Option Addr) (n c n' c' : Nat), (binOp .eql 33 (.slice a n c) (.slice none n' c')).run Tryz.prog w = .ok (.bool a.isNone) w := fun w a n c n' c' => Lib.run_eql_slice_nil w _ _ a n c n' c' Tryz.underlying33
  cases a with
  | none =>
    have hn : n = 0 := by
      by_cases g : 0 < n
      · cases (ha g).1
      · omega
    have HL : Hid (l = []) := Lib.hid (List.eq_nil_of_length_eq_zero (by rw [HN.out, hn]))
    subst hn
    go_enter Tryz.func65, Tryz.ntmps65
    go_wp2
    go_ret
    exact ⟨_, rfl, by rw [HL.out]; exact OwnT.nil _ _, Below.refl _ _⟩
  | some A =>
    have HNW : Hid (∀ (j : Nat) u, (txts l)[j]? = some u → (w.alloc (.cells #[] 9)).cell? (A.add j) = some u) := Lib.hid (fun j u hu => by
      rw [List.getElem?_map] at hu
      cases hx : l[j]? with
      | none => rw [hx] at hu; cases hu
      | some x =>
        rw [hx] at hu
        obtain rfl := Option.some.inj hu
        have htn : j < n := by rw [← HN.out]; exact (List.getElem?_eq_some_iff.1 hx).1
        obtain ⟨e, hbw⟩ := ha (by omega)
        cases e
        rw [Addr.add_lit]
        exact (HB1.out.cell (p := ⟨b, o + j, none⟩) hbw).trans (HC.out j x hx))
    clear ha
    go_enter Tryz.func65, Tryz.ntmps65
    go_wp2_with (at_builtin; refine wpList_append_own _ rfl _ _ 33 rfl w.heap.size 9 i0 _ 1 16 Tryz.underlying33 hi hz0 hz1 hz2' rfl (by decide) _ 0 [] rfl HE.out A n _ (txts l) rfl (by rw [HD.out.1, HN.out, Nat.mul_one]) HNW.out HD.out.2 (by unfold maxLen; omega) (by omega) (by simp) ?_)
    intro v' w3 hown' hgrow _
    have HO : Hid (OwnT w3 w.heap.size v' l) := Lib.hid (by unfold OwnT; rw [HN.out]; simpa using hown')
    have HB : Hid (Below w.heap.size w w3) := Lib.hid (HB1.out.grown hgrow (by simp) (fun k hk => by simp [Value.ownBlock] at hk; omega))
    clear hown' hgrow
    go_wp2
    go_ret
    exact ⟨_, rfl, HO.out, HB.out⟩

def pathsAt (L : List Lp) (k : Nat) : List Bs := match L[k]? with
  | some q => q.1.2
  | none => []
def loseF (L : List Lp) (n : Bs) (ps : List Bs) : List Ls := match L.findIdx? (nameIs n) with
  | none => L.map (·.1)
  | some k => (L.map (·.1)).set k (n, minusS (pathsAt L k) ps)
def LosePost (L : List Lp) (n : Bs) (ps : List Bs) (w : World) (e : Ending) (w' : World) : Prop := ∃ v M, e = .returned v ∧ HoldL w' v M ∧ M.map (·.1) = loseF L n ps ∧ Below w.heap.size w w'
theorem lcells_set1 (l : List Lp) (k : Nat) (q : Lp) (m : List Bs) (u : Value) (hq : l[k]? = some q) : lcells (l.set k ((q.1.1, m), u)) = (lcells l).set (k * 2 + 1) u := by
  have hk := (List.getElem?_eq_some_iff.1 hq).1
  rw [lcells_set l k _ hk]
  obtain ⟨e0, -⟩ := lcells_at l k q hq
  dsimp only
  rw [show (lcells l).set (k * 2) (.string (bsT q.1.1)) = lcells l from by
    obtain ⟨h1, h2⟩ := List.getElem?_eq_some_iff.1 e0
    rw [← h2]; exact List.set_getElem_self h1]
theorem ownL_set1 {w : World} {base g n c : Nat} {l : List Lp} (h : OwnC w base (.slice (some ⟨g, 0, none⟩) n c) l) {k : Nat} {q : Lp} (hq : l[k]? = some q) (m : List Bs) (u : Value) :
    OwnC (w.setCell ⟨g, k * 2 + 1, none⟩ u) base (.slice (some ⟨g, 0, none⟩) n c) (l.set k ((q.1.1, m), u)) ∧ w.grownBy (w.setCell ⟨g, k * 2 + 1, none⟩ u) (some g) := by
  rcases h.2 with ⟨h0, _⟩ | ⟨g', c', cur, hv, hb, hg, hn, hm, hs, ht⟩
  · simp at h0
  · simp only [Value.slice.injEq, Option.some.injEq, Addr.mk.injEq, and_true] at hv
    obtain ⟨rfl, rfl, rfl⟩ := hv
    rw [setCell_eq_setRow w g (k * 2 + 1) cur _ (0, 0) _ hg]
    refine ⟨⟨by rw [lcells_len, List.length_set], .inr ⟨g, c, _, by rw [List.length_set], hb, setRow_heap w g cur _ _ _ hg, by rw [List.length_set]; exact hn, hm, by simp [hs], ?_⟩⟩, ⟨rfl, rfl, rfl, by simp, fun j hj hne => setRow_other w g j _ (fun e => hne (by rw [e]))⟩⟩
    rw [List.length_set, lcells_set1 l k q m u hq, ← ht]
    simp only [Array.toList_setIfInBounds, List.take_set]
set_option maxRecDepth 100000 in
set_option maxHeartbeats 8000000 in
theorem lose_any (v u : Value) (L : List Lp) (ps : List Bs) (hl : L.length ≤ 90000) (hpl : ∀ q ∈ L, q.1.2.length ≤ 90000) (hps : ps.length ≤ 90000) (N : ByteArray) (w : World) (h : HoldL w v L) (h2 : HoldT w u ps) :
    Calls Tryz.prog 29 #[v, .string N, u] w (LosePost L N.data.toList ps w) := by
  obtain ⟨ua, un, uc, rfl⟩ := HoldT.form2 h2
  have B0 := (Below.refl w.heap.size w).alloc (Nat.le_refl _) (.cells #[.slice ua un uc] 33)
  have HB0 := Lib.hid B0
  have hbx := Boxed.new w 33 (.slice ua un uc)
  obtain ⟨A, hA⟩ : ∃ A, w.alloc (.cells #[.slice ua un uc] 33) = A := ⟨_, rfl⟩
  have hAs : A.heap.size = w.heap.size + 1 := by rw [← hA]; simp
  rw [hA] at HB0 B0 hbx
  have HBX := Lib.hid hbx.cell
  have CA := cloneL_any v L hl A (h.on B0)
  have FA := fun W (hb : Below A.heap.size A W) => find13_any v L hl N W ((h.on B0).on hb)
  unfold ClonePostL at CA
  have HH := Lib.hid (h.on B0)
  have HT := Lib.hid (h2.on B0)
  have HAS := Lib.hid hAs
  cases hf : L.findIdx? (nameIs N.data.toList) with
  | none =>
    have e0 : idxGxT L (nameIs N.data.toList) = -1 := by unfold idxGxT; rw [hf]
    have HP : Hid (∀ v w' base, OwnC w' base v L → Below A.heap.size A w' → LosePost L N.data.toList ps w (.returned v) w') := Lib.hid (fun v w' base q1 q2 => ⟨v, L, rfl, q1.holds ((HH.out.1).on q2), by unfold loseF; rw [hf], HB0.out.trans (q2.mono (by omega))⟩)
    obtain ⟨z, hz⟩ : ∃ z, idxGxT L (nameIs N.data.toList) = z := ⟨_, rfl⟩
    simp only [hz] at FA
    have hz0 : z < 0 := by omega
    obtain ⟨-, a, c, b, o, rfl, -, -, -⟩ := h
    clear hf hz e0 h2 B0 hbx hl hpl hps
    generalize L.length = n at *
    go_enter Tryz.func29, Tryz.ntmps29
    go_wp2_with (first
      | (go_at_call 62; refine CA.mono ?_; rintro e w1 ⟨v1, rfl, ho, hb⟩; have HO1 := Lib.hid ho; have HB1 := Lib.hid hb; clear ho hb)
      | (go_at_call 57; (with_reducible refine (FA _ HB1.out).mono ?_); rintro e w2 ⟨rfl, hb⟩; have HB2 := Lib.hid (HB1.out.trans (hb.mono HB1.out.size)); have HO2 := Lib.hid (show OwnC w2 _ _ L from World.ownsRow.kept HO1.out (grown_ofB hb) (nn_ofB _)); clear hb))
    go_ret
    exact HP.out _ _ _ HO2.out HB2.out
  | some k =>
    obtain ⟨hk, hk1, -⟩ := List.findIdx?_eq_some_iff_getElem.1 hf
    have e0 : idxGxT L (nameIs N.data.toList) = (k : Int) := by unfold idxGxT; rw [hf]
    obtain ⟨q, hq⟩ : ∃ q, L[k]? = some q := ⟨_, List.getElem?_eq_getElem hk⟩
    have hqn : q.1.1 = N.data.toList := by
      obtain ⟨_, e⟩ := List.getElem?_eq_some_iff.1 hq
      rw [e] at hk1
      exact of_decide_eq_true hk1
    have hqm := List.mem_of_getElem? hq
    simp only [e0] at FA
    obtain ⟨pa, pn, pc, hqu⟩ := HoldT.form2 (h.1 q hqm)
    have HQT := Lib.hid (fun W (hb : Below A.heap.size A W) => (h.1 q hqm).on (B0.trans (hb.mono (by omega))))
    have CS := fun W (hb : Below A.heap.size A W) => cloneS_any q.2 q.1.2 (hpl q hqm) W ((h.1 q hqm).on (B0.trans (hb.mono (by omega))))
    unfold ClonePostS at CS
    have DA := fun (base : Nat) (v5 : Value) (W : World) (hA5 : A.heap.size ≤ base) (hbW : Below A.heap.size A W) (ho : OwnT W base v5 q.1.2) => delete_any #[.pointer (some ⟨w.heap.size, 0, none⟩)] base v5 q.1.2 ps (hpl q hqm) W ho (fun W2 x hg => by
      have hb2 : Below A.heap.size A W2 := hbW.grown hg hbW.size (fun j hj => Nat.le_trans hA5 (World.ownsRow.lt ho j hj).1)
      exact losep_any w.heap.size (.slice ua un uc) ps hps x W2 ((hb2.cell (p := ⟨w.heap.size, 0, none⟩) (by show w.heap.size < _; omega)).trans hbx.cell) ((h2.on B0).on hb2))
    unfold DelPost at DA
    have HSET := Lib.hid (fun (W : World) (base g n c : Nat) (h : OwnC W base (.slice (some ⟨g, 0, none⟩) n c) L) (x : Value) => ownL_set1 h hq (minusS q.1.2 ps) x)
    have HFORM := Lib.hid (fun (W : World) (base : Nat) (u : Value) (h : OwnC W base u L) => OwnC.formxT h (by omega))
    have HCELL := Lib.hid (fun (W : World) (base g n c : Nat) (h : OwnC W base (.slice (some ⟨g, 0, none⟩) n c) L) => OwnC.cellsAt h hk)
    have HMAP : Hid (∀ x : Value, (L.set k ((q.1.1, minusS q.1.2 ps), x)).map (·.1) = loseF L N.data.toList ps) := Lib.hid (fun x => by
      unfold loseF pathsAt
      rw [hf]
      dsimp only
      rw [hq, List.map_set, ← hqn])
    have HP : Hid (∀ v w' (x : Value) base, OwnC w' base v (L.set k ((q.1.1, minusS q.1.2 ps), x)) → HoldT w' x (minusS q.1.2 ps) → Below A.heap.size A w' → LosePost L N.data.toList ps w (.returned v) w') := Lib.hid (fun v w' x base q1 q2 q3 => ⟨v, _, rfl, q1.holds (fun p hp => by
      rcases List.mem_or_eq_of_mem_set hp with h1 | h1
      · exact (HH.out.1 p h1).on q3
      · subst h1; exact q2), HMAP.out x, HB0.out.trans (q3.mono (by omega))⟩)
    obtain ⟨-, a, c, b, o, rfl, hc, ha, hcell⟩ := h
    obtain ⟨rfl, hbw⟩ := ha (by omega)
    have hc1 := (hcell k q hq).2
    rw [hqu] at hc1 CS
    have HC1 := Lib.hid (fun W (hb : Below A.heap.size A W) => ((B0.trans (hb.mono (by omega))).cell (p := ⟨b, o + k * 2 + 1, none⟩) hbw).trans hc1)
    clear hf e0 h2 B0 hbx hl hpl hps hcell ha hqu hk1 hqn hqm hq hc1 hbw
    generalize hn : L.length = n at *
    clear hn
    go_enter Tryz.func29, Tryz.ntmps29
    go_wp2_with (first
      | (go_at_call 62; refine CA.mono ?_; rintro e w1 ⟨v1, rfl, ho, hb⟩; have HO1 := Lib.hid ho; obtain ⟨g, cg, rfl⟩ := HFORM.out _ _ _ ho; have HB1 := Lib.hid hb; clear ho hb)
      | (go_at_call 57; (with_reducible refine (FA _ HB1.out).mono ?_); rintro e w2 ⟨rfl, hb⟩; have HB2 := Lib.hid (HB1.out.trans (hb.mono HB1.out.size)); have HO2 := Lib.hid (show OwnC w2 _ _ L from World.ownsRow.kept HO1.out (grown_ofB hb) (nn_ofB _)); have c1 := HC1.out _ HB2.out; clear hb)
      | (go_at_call 65; refine (CS _ HB2.out).mono ?_; rintro e w3 ⟨v3, rfl, ho, hb⟩; have HS3 := Lib.hid ho; have HB3 := Lib.hid (HB2.out.trans (hb.mono HB2.out.size)); have HO3 := Lib.hid (show OwnC w3 _ _ L from World.ownsRow.kept HO2.out (grown_ofB hb) (nn_ofB _)); have DA3 := DA _ _ _ HB2.out.size HB3.out ho; clear ho hb)
      | (go_at_call 64; refine DA3.mono ?_; rintro e w4 ⟨v4, rfl, ho4, hg4⟩; obtain ⟨va, vn, vc, rfl⟩ := HoldT.form2 ho4.holds; have hgl := (World.ownsRow.lt HO2.out g rfl).2; have hgA := (World.ownsRow.lt HO2.out g rfl).1; have hlow := fun j (hj : v3.ownBlock = some j) => (World.ownsRow.lt HS3.out j hj).1; have HB4 := Lib.hid (HB3.out.grown hg4 HB3.out.size (fun j hj => Nat.le_trans HB2.out.size (hlow j hj))); have HO4 := Lib.hid (show OwnC w4 _ _ L from World.ownsRow.kept HO3.out hg4 (.inr (fun e => by have := hlow g e.symm; omega))); have HT4 := Lib.hid ho4.holds; have HAP := Lib.hid (OwnT.apart ho4 (b := g) hgl); obtain ⟨fz, d0, d1, r0, r1⟩ := HCELL.out _ _ _ _ _ HO4.out; have f1 := fz (k * 2 + 1); have HS := Lib.hid (HSET.out _ _ _ _ _ HO4.out (.slice va vn vc)); clear ho4 hg4 hlow fz DA3))
    go_ret
    exact HP.out _ _ _ _ HS.out.1 (HT4.out.set HAP.out _ _) (HB4.out.grown HS.out.2 HB4.out.size (fun j hj => by cases hj; exact hgA))

theorem apart_types {w : World} {b1 b2 : Nat} {v t : Value} {ls : List Bs} {L : List Lp} (h1 : OwnT w b1 v ls) (h2 : OwnC w b2 t L) : v.ownBlock = none ∨ v.ownBlock ≠ t.ownBlock := by
  rcases h1.2 with ⟨rfl, _⟩ | ⟨g, c, cur, rfl, _, hg, _⟩
  · exact .inl rfl
  · refine .inr (fun e => ?_)
    rcases h2.2 with ⟨rfl, _⟩ | ⟨g', c', cur', rfl, _, hg', _⟩
    · cases e
    · simp only [Value.ownBlock, Option.some.injEq] at e
      subst e
      rw [hg] at hg'
      simp at hg'
end Go.Proofs.YtkcamfcjkjiijaaGreatDoor
