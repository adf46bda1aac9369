/-
  slices.Clone and slices.IndexFunc of interests; trigs.merged's predicate; trigs.merged with trigs.compare: each interest at its place; nothing old turns. trigs.merged with trigs.compare: each interest at its place, one by one; nothing old turns. The program's Set: what it returns; nothing old turns. The walk of TrigsSets: for every lists and package it returns true; nothing old turns. Condition: LaidP.
-/
import Derived.Test.YtceohgjfjndcmaaGreatDoorGOfFor
import Derived.Test.YtceohgjfjndcmaaGreatDoorInsI
import Derived.Test.YtceohgjfjndcmaaGreatDoorGRefSet
import Derived.Test.YtceohgjfjndcmaaGreatDoorGAwake
namespace Go.Proofs.YtceohgjfjndcmaaGreatDoor
open Go.RowKit
theorem own_emptyI (w : World) (base : Nat) (hb : base ≤ w.heap.size) : OwnI (w.alloc (.cells #[] 53)) base (.slice (some ⟨w.heap.size, 0, none⟩) 0 0) [] :=
  ⟨fun r hr => by simp at hr, rfl, .inr ⟨w.heap.size, 0, #[], rfl, hb, World.alloc_heap_new w _, Nat.le_refl _, Nat.zero_le _, rfl, rfl⟩⟩
theorem HoldV.flatc {k : Nat} {w : World} {a : Option Addr} {n c : Nat} {rows : List Rw} (hk : 0 < k) (hr : ∀ r ∈ rows, r.length = k) (h : HoldV k w (.slice a n c) rows) (h0 : 0 < rows.length) : ∃ b o, a = some ⟨b, o, none⟩ ∧ b < w.heap.size ∧ ∀ (j : Nat) u, rows.flatten[j]? = some u → w.cell? ⟨b, o + j, none⟩ = some u := by
  obtain ⟨a', c', b, o, e, _, ha, hcell⟩ := h
  simp only [Value.slice.injEq] at e
  obtain ⟨rfl, rfl, rfl⟩ := e
  refine ⟨b, o, (ha h0).1, (ha h0).2, fun m u hu => ?_⟩
  obtain ⟨j, i, r, rfl, hi, hj, hr⟩ := flat_get k hk rows hr m u hu
  rw [← Nat.add_assoc]
  exact hcell j r hj i u hi hr
set_option maxRecDepth 100000 in
set_option maxHeartbeats 4000000 in
theorem cloneI_any (v : Value) (l : List It) (hl : l.length ≤ 90000) (w : World) (h : HoldI w v l) : Calls Tryz.prog 81 #[v] w fun e w' => ∃ v', e = .returned v' ∧ OwnI w' w.heap.size v' l ∧ Below w.heap.size w w' := by
  have hh := h
  obtain ⟨a, c, b, o, rfl, hc, ha, hcell⟩ := h.parts
  obtain ⟨i0, hi, hz0, hz1, hz2'⟩ := info_parts infoI
  have HB1 := Lib.hid ((Below.refl w.heap.size w).alloc (Nat.le_refl _) (.cells #[] 53))
  have HE := Lib.hid (own_emptyI w w.heap.size (Nat.le_refl _))
  have HD := Lib.hid (And.intro (flat_len 3 (l.map cellsI) (cellsI_len l)) (OwnI.one l))
  have HF : Hid (0 < l.length → ∃ b o, a = some ⟨b, o, none⟩ ∧ b < w.heap.size ∧ ∀ (j : Nat) u, (l.map cellsI).flatten[j]? = some u → w.cell? ⟨b, o + j, none⟩ = some u) := Lib.hid (fun h0 => HoldV.flatc (by omega) (cellsI_len l) hh (by rw [List.length_map]; exact h0))
  obtain ⟨n, hN⟩ : ∃ n, l.length = n := ⟨_, rfl⟩
  rw [List.length_map] at HD
  rw [hN] at hc ha hl HF HD ⊢
  have HN := Lib.hid hN
  clear hcell hN h hh ha
  have hq : ∀ (w : World) (a : Option Addr) (n c n' c' : Nat), (binOp .eql 22 (.slice a n c) (.slice none n' c')).run Tryz.prog w = .ok (.bool a.isNone) w := fun w a n c n' c' => Lib.run_eql_slice_nil w _ _ a n c n' c' Tryz.underlying22
  cases a with
  | none =>
    have hn : n = 0 := by
      by_cases g : 0 < n
      · obtain ⟨_, _, e, _⟩ := HF.out g; cases e
      · omega
    have HL : Hid (l = []) := Lib.hid (List.eq_nil_of_length_eq_zero (by rw [HN.out, hn]))
    subst hn
    go_enter Tryz.func81, Tryz.ntmps81
    go_wp2
    go_ret
    exact ⟨_, rfl, by rw [HL.out]; exact OwnV.nil _ _ _ _, Below.refl _ _⟩
  | some A =>
    have HNW : Hid (∀ (j : Nat) u, (l.map cellsI).flatten[j]? = some u → (w.alloc (.cells #[] 53)).cell? (A.add j) = some u) := Lib.hid (fun j u hu => by
      have hj : j < n * 3 := by rw [← HD.out.1]; exact (List.getElem?_eq_some_iff.1 hu).1
      obtain ⟨b, o, e, hbw, hcl⟩ := HF.out (by omega)
      cases e
      rw [Addr.add_lit]
      exact (HB1.out.cell (p := ⟨b, o + j, none⟩) hbw).trans (hcl j u hu))
    go_enter Tryz.func81, Tryz.ntmps81
    go_wp2_with (at_builtin; refine wpList_append_own _ rfl _ _ 22 rfl w.heap.size 53 i0 _ 3 40 Tryz.underlying22 hi hz0 hz1 hz2' rfl (by decide) _ 0 [] rfl HE.out.2 A n _ (l.map cellsI).flatten rfl HD.out.1 HNW.out HD.out.2 (by unfold maxLen; omega) (by omega) (by simp) ?_)
    intro v' w3 hown' hgrow _
    have HO : Hid (OwnI w3 w.heap.size v' l) := Lib.hid ⟨cellsI_len l, by rw [List.length_map, HN.out]; simpa using hown'⟩
    have HB : Hid (Below w.heap.size w w3) := Lib.hid (HB1.out.grown hgrow (by simp) (fun k hk => by simp [Value.ownBlock] at hk; omega))
    clear hown' hgrow
    go_wp2
    go_ret
    exact ⟨_, rfl, HO.out, HB.out⟩
set_option maxRecDepth 100000 in
set_option maxHeartbeats 4000000 in
theorem idx_it (g : Nat) (lb : Array Value) (eg : ∀ args w, (callFunc g args).run Tryz.prog w = .ok (.enter g args) w) (p : It → Bool) (v : Value) (l : List It) (hl : l.length ≤ 90000) (w : World) (h : HoldI w v l) (hp : PredI g lb p w) :
    Calls Tryz.prog 82 #[v, .func (.func g) #[] lb] w fun e w' => e = .returned (.int .i64 (idxI l p)) ∧ Below w.heap.size w w' := by
  obtain ⟨a, c, b, o, rfl, hc, ha, hcell⟩ := h.parts
  have HC := Lib.hid hcell
  obtain ⟨Z, HZ⟩ : ∃ Z, Hid (idxI l p = Z) := ⟨_, rfl⟩
  rw [HZ.out]
  have HP := Lib.hid hp
  obtain ⟨n, hN⟩ : ∃ n, l.length = n := ⟨_, rfl⟩
  rw [hN] at hc ha hl ⊢
  have HN := Lib.hid hN
  clear hcell hp hN h
  go_enter Tryz.func82, Tryz.ntmps82
  go_wp2
  go_loopw [8] (fun i wr => ∃ k : Nat, k ≤ n ∧ i = .int .i64 k ∧ Hid (∀ (j : Nat) y, j < k → l[j]? = some y → p y = false) ∧ Hid (Below w.heap.size w wr)) (fun i _ => n - (intOf i).toNat)
  case atStart => exact ⟨0, by omega, rfl, Lib.hid (fun j y hj => by omega), Lib.hid (Below.refl _ _)⟩
  case round =>
    obtain ⟨k, hk, rfl, H, HB⟩ := hrel
    by_cases hlt : k < n
    · obtain ⟨rfl, hbw⟩ := ha (by omega)
      obtain ⟨⟨t, q, z⟩, hx⟩ : ∃ x, l[k]? = some x := ⟨_, List.getElem?_eq_getElem (by rw [HN.out]; exact hlt)⟩
      obtain ⟨c0, c1, c2⟩ := HC.out k (t, q, z) hx
      dsimp only at c0 c1 c2
      rw [← HB.out.cell (p := ⟨b, o + k * 3, none⟩) hbw] at c0
      rw [← HB.out.cell (p := ⟨b, o + k * 3 + 1, none⟩) hbw] at c1
      rw [← HB.out.cell (p := ⟨b, o + k * 3 + 2, none⟩) hbw] at c2
      have hcall := HP.out wr (t, q, z) HB.out
      unfold aggI at hcall
      dsimp only at hcall
      have HX := Lib.hid hx
      clear hx
      cases hq : p (t, q, z)
      · rw [hq] at hcall
        have HK : Hid (∀ (j : Nat) y, j < k + 1 → l[j]? = some y → p y = false) := Lib.hid (fun j y hj hy => by
          by_cases e : j = k
          · subst e
            rw [HX.out] at hy; cases hy
            exact hq
          · exact H.out j y (by omega) hy)
        clear hq H
        generalize bsT t = X at *
        generalize bsT q = Y at *
        go_wp2_with (go_at_fn g; refine hcall.mono ?_; rintro e w1 ⟨rfl, hb1⟩; have HB1 := Lib.hid (HB.out.trans (hb1.mono HB.out.size)); clear hb1)
        go_roundw
        case rel => exact ⟨k + 1, by omega, by go_num, HK, HB1⟩
        case measure => simp [intOf]; omega
      · rw [hq] at hcall
        have HF : Hid ((k : Int) = Z) := Lib.hid (by rw [← HZ.out, idxI, idxI_hit HX.out hq H.out])
        clear hq H
        generalize bsT t = X at *
        generalize bsT q = Y at *
        go_wp2_with (go_at_fn g; refine hcall.mono ?_; rintro e w1 ⟨rfl, hb1⟩; have HB1 := Lib.hid (HB.out.trans (hb1.mono HB.out.size)); clear hb1)
        go_ret
        exact ⟨reti HF.out, HB1.out⟩
    · obtain rfl : k = n := by omega
      have HF : Hid ((-1 : Int) = Z) := Lib.hid (by rw [← HZ.out, idxI, idxI_miss (fun j y hy => H.out j y (by have := (List.getElem?_eq_some_iff.1 hy).1; rw [HN.out] at this; exact this) hy)])
      clear hlt H
      go_wp2
      go_ret
      exact ⟨reti HF.out, HB.out⟩
open Classical in
theorem ahead_yes {x y : It} (h : lessI x y) : ahead x y = true := by unfold ahead; exact decide_eq_true h
open Classical in
theorem ahead_no {x y : It} (h : ¬ lessI x y) : ahead x y = false := by unfold ahead; exact decide_eq_false h
theorem ahead_cmp (x y : It) : ahead x y = decide (0 < cmpI y x) := by
  have key : ∀ a b : Bs, ¬ a < b → a ≠ b → b < a := fun a b h hn => by
    rcases List.le_iff_lt_or_eq.1 (List.not_lt.1 h) with h | h
    · exact h
    · exact absurd h.symm hn
  rcases cmpI_ways y x with ⟨e, h⟩ | ⟨e, h, h1, h2⟩ | ⟨e, h, h1⟩
  · rw [e, decide_eq_false (p := (0 : Int) < -1) (by omega)]; apply ahead_no
    rcases h with h | ⟨h, h'⟩
    · rintro (g | ⟨g, _⟩)
      · exact List.lt_asymm h g
      · rw [g] at h; exact List.lt_irrefl _ h
    · rintro (g | ⟨_, g⟩)
      · rw [h] at g; exact List.lt_irrefl _ g
      · exact List.lt_asymm h' g
  · rw [e, decide_eq_false (p := (0 : Int) < 0) (by omega)]; apply ahead_no
    rintro (g | ⟨_, g⟩)
    · rw [h1] at g; exact List.lt_irrefl _ g
    · rw [h2] at g; exact List.lt_irrefl _ g
  · rw [e, decide_eq_true (p := (0 : Int) < 1) (by omega)]; apply ahead_yes
    by_cases e1 : y.1 = x.1
    · rcases h1 with h1 | h1
      · exact absurd e1 h1
      · exact .inr ⟨e1.symm, key _ _ (fun g => h (.inr ⟨e1, g⟩)) h1⟩
    · exact .inl (key _ _ (fun g => h (.inl g)) e1)
abbrev cpI : Value := .func (.func 36) #[] #[]
set_option maxRecDepth 100000 in
set_option maxHeartbeats 4000000 in
theorem merged1_any (B1 B2 : Nat) (x y : It) (W : World) (h1 : W.cell? ⟨B1, 0, none⟩ = some cpI) (h2 : Box3 W B2 (.string (bsT x.1)) (.string (bsT x.2.1)) (.bool x.2.2)) :
    Calls Tryz.prog 83 #[aggI y, .pointer (some ⟨B1, 0, none⟩), .pointer (some ⟨B2, 0, none⟩)] W fun e w' => e = .returned (.bool (ahead x y)) ∧ Below W.heap.size W w' := by
  have CA := fun W => compare_any y x W
  rw [ahead_cmp]
  unfold cpI at h1
  obtain ⟨t, q, z⟩ := x
  obtain ⟨t2, q2, z2⟩ := y
  unfold aggI at CA ⊢
  dsimp only at CA h2 ⊢
  generalize cmpI (t2, q2, z2) (t, q, z) = d at *
  have hB1 := World.block_lt_of_cell? _ _ h1
  have B0 := (Below.refl W.heap.size W).alloc (Nat.le_refl _) (.cells #[.string (bsT t2), .string (bsT q2), .bool z2] 53)
  obtain ⟨x0, x1, x2⟩ := boxV3 W (.string (bsT t2)) (.string (bsT q2)) (.bool z2) 53
  have hK := (B0.cell (p := ⟨B1, 0, none⟩) hB1).trans h1
  obtain ⟨y0, y1, y2⟩ := h2.on B0
  have HB0 := Lib.hid B0
  generalize bsT t = X at *
  generalize bsT q = Y at *
  generalize bsT t2 = X2 at *
  generalize bsT q2 = Y2 at *
  clear h1 h2 B0
  go_enter Tryz.func83, Tryz.ntmps83
  go_wp2_with (go_at_call 36; (with_reducible refine (CA _).mono ?_); rintro e w1 ⟨rfl, hb⟩; have HB := Lib.hid (HB0.out.trans (hb.mono HB0.out.size)); clear hb)
  go_ret
  exact ⟨rfl, HB.out⟩
end Go.Proofs.YtceohgjfjndcmaaGreatDoor
namespace Go.Proofs.YtceohgjfjndcmaaGreatDoor
open Go.RowKit
theorem flat_cut (k : Nat) : ∀ (rows : List Rw) (i : Nat), (∀ r ∈ rows, r.length = k) → rows.flatten.take (i * k) = (rows.take i).flatten ∧ rows.flatten.drop (i * k) = (rows.drop i).flatten
  | [], i, _ => by simp
  | r :: rows, 0, _ => by simp
  | r :: rows, i + 1, h => by
    have hr : r.length = k := h r (by simp)
    obtain ⟨h1, h2⟩ := flat_cut k rows i (fun q hq => h q (by simp [hq]))
    have e : (i + 1) * k = r.length + i * k := by rw [hr, Nat.add_mul]; omega
    rw [List.flatten_cons, e]
    refine ⟨?_, ?_⟩
    · rw [List.take_append, List.take_of_length_le (by omega), Nat.add_sub_cancel_left, h1]; simp
    · rw [List.drop_append, List.drop_of_length_le (by omega), Nat.add_sub_cancel_left, h2]; simp
theorem own_neV {T : TypeId} {k : Nat} {w : World} {base : Nat} {v : Value} {rows : List Rw} (h : OwnV T k w base v rows) : v.ownBlock ≠ some w.heap.size := fun e => by have := (World.ownsRow.lt h.2 _ e).2; omega
theorem ins_it (base : Nat) (v : Value) (cur : List It) (t q : Bs) (z : Bool) (i : Nat) (hi : i ≤ cur.length) (hl : cur.length ≤ 90000) (w2 : World) (h : OwnI w2 base v cur) (hbase : base ≤ w2.heap.size) :
    Calls Tryz.prog 84 #[v, .int .i64 i, .slice (some ⟨w2.heap.size, 0, none⟩) 1 1] (w2.alloc (.cells #[.string (bsT t), .string (bsT q), .bool z] 53)) fun e w' =>
      ∃ v', e = .returned v' ∧ OwnI w' base v' (cur.take i ++ (t, q, z) :: cur.drop i) ∧ (w2.alloc (.cells #[.string (bsT t), .string (bsT q), .bool z] 53)).grownBy w' v.ownBlock := by
  have hO := World.ownsRow.alloc h.2 (.cells #[.string (bsT t), .string (bsT q), .bool z] 53)
  rw [List.length_map] at hO
  refine (insert_own base cur.length v (cur.map cellsI).flatten [.string (bsT t), .string (bsT q), .bool z] _ hO (OwnI.one cur) i hi hl w2.heap.size 53 rfl (World.alloc_heap_new w2 _) (fun u hu => by simp at hu; rcases hu with rfl | rfl | rfl <;> rfl) (own_neV h) (by simp; omega)).mono ?_
  rintro e w' ⟨v', rfl, ho, hg⟩
  refine ⟨v', rfl, ⟨cellsI_len _, ?_⟩, hg⟩
  obtain ⟨h1, h2⟩ := flat_cut 3 (cur.map cellsI) i (cellsI_len cur)
  rw [h1, h2] at ho
  have e1 : ((cur.take i ++ (t, q, z) :: cur.drop i).map cellsI).flatten = ((cur.map cellsI).take i).flatten ++ [.string (bsT t), .string (bsT q), .bool z] ++ ((cur.map cellsI).drop i).flatten := by
    rw [List.map_append, List.map_cons, List.flatten_append, List.flatten_cons, List.map_take, List.map_drop]; simp
  have e2 : ((cur.take i ++ (t, q, z) :: cur.drop i).map cellsI).length = cur.length + 1 := by simp; omega
  rw [e1, e2]; exact ho
def MergedPost (l m : List It) (w : World) (e : Ending) (w' : World) : Prop := ∃ v, e = .returned v ∧ OwnI w' w.heap.size v (m.foldl putI l) ∧ Below w.heap.size w w'
set_option maxRecDepth 100000 in
set_option maxHeartbeats 8000000 in
theorem merged_any (v u : Value) (l m : List It) (hl : l.length ≤ 40000) (hm : m.length ≤ 40000) (w : World) (hv : HoldI w v l) (hu : HoldI w u m) :
    Calls Tryz.prog 55 #[v, cpI, u] w (MergedPost l m w) := by
  have HPOST : Hid (∀ v' w', OwnI w' w.heap.size v' (m.foldl putI l) → Below w.heap.size w w' → MergedPost l m w (.returned v') w') := Lib.hid (fun v' w' h1 h2 => ⟨v', rfl, h1, h2⟩)
  obtain ⟨W0, hW0⟩ : ∃ W0, w.alloc (.cells #[cpI] 68) = W0 := ⟨_, rfl⟩
  have B0 : Below w.heap.size w W0 := by rw [← hW0]; exact (Below.refl w.heap.size w).alloc (Nat.le_refl _) _
  have hB1 : w.heap.size < W0.heap.size := by rw [← hW0]; simp
  have hK0 : W0.cell? ⟨w.heap.size, 0, none⟩ = some cpI := by rw [← hW0]; exact boxV1 w _ _
  have CL := cloneI_any v l (by omega) (w.alloc (.cells #[cpI] 68)) (by rw [hW0]; exact HoldV.on hv B0)
  have HU := HoldV.on hu B0
  obtain ⟨av, cv, rfl⟩ : ∃ a c, v = .slice a l.length c := by obtain ⟨a, c, b, o, e, _⟩ := hv.parts; exact ⟨a, c, e⟩
  have HLN : Hid (∀ k, ((m.take k).foldl putI l).length ≤ 90000) := Lib.hid (fun k => by rw [fold_len, List.length_take]; omega)
  obtain ⟨a, c, b, o, rfl, hc, ha, hcell⟩ := HoldI.parts HU
  have HC := Lib.hid hcell
  have HB0 := Lib.hid B0
  have HK0 := Lib.hid hK0
  have HW0 := Lib.hid hW0
  obtain ⟨n, hN⟩ : ∃ n, m.length = n := ⟨_, rfl⟩
  rw [hN] at hc ha hm ⊢
  have HN := Lib.hid hN
  generalize l.length = ln at *
  clear hcell hN hv hu HU B0 hK0 hl hW0
  unfold cpI at CL ⊢
  go_enter Tryz.func55, Tryz.ntmps55
  go_wp2_with (go_at_call 81; (with_reducible refine CL.mono ?_); rintro e w1 ⟨v1, rfl, ho, hb⟩; have HO1 := Lib.hid ho; have HB1 := Lib.hid hb; clear ho hb CL)
  go_loopw [7, 15] (fun s i wr => ∃ k : Nat, k ≤ n ∧ i = .int .i64 k ∧ Hid (OwnI wr W0.heap.size s ((m.take k).foldl putI l)) ∧ Hid (Below W0.heap.size W0 wr)) (fun _ i _ => n - (intOf i).toNat)
  case atStart =>
    refine ⟨0, by omega, rfl, Lib.hid ?_, Lib.hid ?_⟩
    · have := HO1.out; rw [show w.alloc (.cells #[.func (.func 36) #[] #[]] 68) = W0 from HW0.out] at this; simpa using this
    · have := HB1.out; rw [show w.alloc (.cells #[.func (.func 36) #[] #[]] 68) = W0 from HW0.out] at this; exact this
  case round =>
    obtain ⟨k, hk, rfl, HO, HB⟩ := hrel
    have hsz := HB.out.size
    by_cases hlt : k < n
    · obtain ⟨rfl, hbw⟩ := ha (by omega)
      obtain ⟨⟨t, q, z⟩, hx⟩ : ∃ x, m[k]? = some x := ⟨_, List.getElem?_eq_getElem (by rw [HN.out]; exact hlt)⟩
      obtain ⟨c0, c1, c2⟩ := HC.out k (t, q, z) hx
      dsimp only at c0 c1 c2
      rw [← HB.out.cell (p := ⟨b, o + k * 3, none⟩) hbw] at c0
      rw [← HB.out.cell (p := ⟨b, o + k * 3 + 1, none⟩) hbw] at c1
      rw [← HB.out.cell (p := ⟨b, o + k * 3 + 2, none⟩) hbw] at c2
      have HFS := Lib.hid (foldl_snoc putI l hx)
      have hcl : ((m.take k).foldl putI l).length ≤ 90000 := HLN.out k
      obtain ⟨cur, hcur⟩ : ∃ cur, (m.take k).foldl putI l = cur := ⟨_, rfl⟩
      rw [hcur] at HO HFS hcl
      have HBW := Lib.hid (HB.out.alloc hsz (.cells #[.string (bsT t), .string (bsT q), .bool z] 53))
      have A1 := (Below.refl wr.heap.size wr).alloc (Nat.le_refl _) (.cells #[.string (bsT t), .string (bsT q), .bool z] 53)
      have HO2 := Lib.hid (OwnV.on HO.out A1)
      have HX3 := Lib.hid (Box3.new wr (.string (bsT t)) (.string (bsT q)) (.bool z) 53)
      have I := idx_it 83 #[.pointer (some ⟨w.heap.size, 0, none⟩), .pointer (some ⟨wr.heap.size, 0, none⟩)] (enters_of Tryz.func83 (by kernel_rfl) rfl) (ahead (t, q, z)) _ cur hcl (wr.alloc (.cells #[.string (bsT t), .string (bsT q), .bool z] 53)) HO2.out.holds
        (fun W y hb => merged1_any w.heap.size wr.heap.size (t, q, z) y W (((HBW.out.trans (hb.mono HBW.out.size)).cell (p := ⟨w.heap.size, 0, none⟩) hB1).trans HK0.out) (HX3.out.on hb))
      have IN := fun i (hi : i ≤ cur.length) W (hb : Below (wr.alloc (.cells #[.string (bsT t), .string (bsT q), .bool z] 53)).heap.size (wr.alloc (.cells #[.string (bsT t), .string (bsT q), .bool z] 53)) W) => ins_it W0.heap.size _ cur t q z i hi hcl W (OwnV.on HO2.out hb) (Nat.le_trans HBW.out.size hb.size)
      obtain ⟨sa, sc, rfl⟩ := OwnV.form HO.out
      rw [List.length_map] at I IN HO HO2 ⊢
      have hput : putI cur (t, q, z) = cur.take (atI cur (t, q, z)) ++ (t, q, z) :: cur.drop (atI cur (t, q, z)) := rfl
      rw [hput] at HFS
      unfold idxI at I
      unfold atI at HFS
      cases hf : cur.findIdx? (ahead (t, q, z)) with
      | none =>
        rw [hf] at I HFS
        dsimp only [Option.getD] at I HFS
        have IN2 := IN cur.length (Nat.le_refl _)
        clear IN hput hf hx hcur
        generalize bsT t = X at *
        generalize bsT q = Y at *
        generalize cur.length = nc at *
        clear A1
        go_wp2_with (first
          | (go_at_call 82; (with_reducible refine I.mono ?_); rintro e w2 ⟨rfl, hb⟩; have HBI := Lib.hid hb; have HB2 := Lib.hid (HBW.out.trans (hb.mono HBW.out.size)); obtain ⟨x0, x1, x2⟩ := HX3.out.on hb; clear hb I)
          | (go_at_call 84; (with_reducible refine (IN2 _ HBI.out).mono ?_); rintro e w4 ⟨v4, rfl, ho, hg⟩; have HO4 := Lib.hid ho; have HB4 := Lib.hid (OwnV.below HB2.out (OwnV.on HO2.out HBI.out) hg (Nat.le_refl _) HB2.out.size); clear ho hg IN2))
        go_roundw
        case rel => exact ⟨k + 1, by omega, by go_num, Lib.hid (by rw [HFS.out]; exact HO4.out), HB4⟩
        case measure => simp [intOf]; omega
      | some j =>
        have hj : j ≤ cur.length := by rw [List.findIdx?_eq_some_iff_getElem] at hf; obtain ⟨h, _⟩ := hf; omega
        rw [hf] at I HFS
        dsimp only [Option.getD] at I HFS
        have IN2 := IN j hj
        clear IN hput hf hx hcur
        generalize bsT t = X at *
        generalize bsT q = Y at *
        generalize cur.length = nc at *
        clear A1
        go_wp2_with (first
          | (go_at_call 82; (with_reducible refine I.mono ?_); rintro e w2 ⟨rfl, hb⟩; have HBI := Lib.hid hb; have HB2 := Lib.hid (HBW.out.trans (hb.mono HBW.out.size)); obtain ⟨x0, x1, x2⟩ := HX3.out.on hb; clear hb I)
          | (go_at_call 84; (with_reducible refine (IN2 _ HBI.out).mono ?_); rintro e w4 ⟨v4, rfl, ho, hg⟩; have HO4 := Lib.hid ho; have HB4 := Lib.hid (OwnV.below HB2.out (OwnV.on HO2.out HBI.out) hg (Nat.le_refl _) HB2.out.size); clear ho hg IN2))
        go_roundw
        case rel => exact ⟨k + 1, by omega, by go_num, Lib.hid (by rw [HFS.out]; exact HO4.out), HB4⟩
        case measure => simp [intOf]; omega
    · obtain rfl : k = n := by omega
      have HF : Hid (m.take k = m) := Lib.hid (List.take_of_length_le (by rw [HN.out]; omega))
      rw [HF.out] at HO
      clear hlt
      go_wp2
      go_ret
      exact HPOST.out _ _ (OwnV.mono HO.out HB0.out.size) (HB0.out.trans (HB.out.mono HB0.out.size))
end Go.Proofs.YtceohgjfjndcmaaGreatDoor
namespace Go.Proofs.YtceohgjfjndcmaaGreatDoor
open Go.RowKit
def SetPost (l : List It) (p : Bs) (own : List It) (w : World) (e : Ending) (w' : World) : Prop := ∃ v, e = .returned v ∧ OwnI w' w.heap.size v (setI l p own) ∧ Below w.heap.size w w'
theorem for_len (K : ByteArray) (v : Value) (l : List It) (hl : l.length ≤ 90000) (w : World) (h : HoldI w v l) :
    Calls Tryz.prog 28 #[v, .string K] w fun e w' => ∃ a c, e = .returned (.slice a (forI l K.data.toList).length c) ∧ Below w.heap.size w w' :=
  (for_any K v l hl w h).mono (fun e w' ⟨v', he, ho, hb⟩ => by
    obtain ⟨a, c, rfl⟩ := OwnV.form ho
    rw [List.length_map] at he
    exact ⟨a, c, he, hb⟩)
set_option maxRecDepth 100000 in
set_option maxHeartbeats 8000000 in
theorem set_any (K : ByteArray) (v u : Value) (l own : List It) (hl : l.length ≤ 40000) (hm : own.length ≤ 40000) (w : World) (hv : HoldI w v l) (hu : HoldI w u own) :
    Calls Tryz.prog 24 #[v, .string K, u] w (SetPost l K.data.toList own w) := by
  have HPOST : Hid (∀ v' w', OwnI w' w.heap.size v' (setI l K.data.toList own) → Below w.heap.size w w' → SetPost l K.data.toList own w (.returned v') w') := Lib.hid (fun v' w' h1 h2 => ⟨v', rfl, h1, h2⟩)
  obtain ⟨p, hp⟩ : ∃ p, K.data.toList = p := ⟨_, rfl⟩
  have HKP : Hid (K.data.toList = p) := Lib.hid hp
  rw [hp] at HPOST ⊢
  clear hp
  obtain ⟨W0, hW0⟩ : ∃ W0, w.alloc (.cells #[.string K] 9) = W0 := ⟨_, rfl⟩
  have B0 : Below w.heap.size w W0 := by rw [← hW0]; exact (Below.refl w.heap.size w).alloc (Nat.le_refl _) _
  have hB1 : w.heap.size < W0.heap.size := by rw [← hW0]; simp
  have hK0 : W0.cell? ⟨w.heap.size, 0, none⟩ = some (.string K) := by rw [← hW0]; exact boxV1 w _ _
  have HV := Lib.hid (HoldV.on hv B0)
  have HU := HoldV.on hu B0
  obtain ⟨av, cv, rfl⟩ : ∃ a c, v = .slice a l.length c := by obtain ⟨a, c, b, o, e, _⟩ := hv.parts; exact ⟨a, c, e⟩
  have HLL := Lib.hid hl
  have HML : Hid (∀ k, ((own.take k).foldl (stepM p) []).length ≤ 40000) := Lib.hid (fun k => by have := more_len p (own.take k) []; rw [List.length_take] at this; simp only [List.length_nil] at this; omega)
  obtain ⟨a, c, b, o, rfl, hc, ha, hcell⟩ := HoldI.parts HU
  have HC := Lib.hid hcell
  have HB0 := Lib.hid B0
  have HK0 := Lib.hid hK0
  have HW0 := Lib.hid hW0
  obtain ⟨i0, hi, hz0, hz1, hz2'⟩ := info_parts infoI
  obtain ⟨n, hN⟩ : ∃ n, own.length = n := ⟨_, rfl⟩
  rw [hN] at hc ha hm ⊢
  have HN := Lib.hid hN
  obtain ⟨ln, hln⟩ : ∃ ln, l.length = ln := ⟨_, rfl⟩
  rw [hln] at HV ⊢
  clear hcell hN hv hu HU B0 hK0 hl hW0 hln
  go_enter Tryz.func24, Tryz.ntmps24
  go_wp2
  go_loopw [7, 13] (fun s i wr => ∃ k : Nat, k ≤ n ∧ i = .int .i64 k ∧ Hid (OwnI wr W0.heap.size s ((own.take k).foldl (stepM p) [])) ∧ Hid (Below W0.heap.size W0 wr)) (fun _ i _ => n - (intOf i).toNat)
  case atStart => exact ⟨0, by omega, rfl, Lib.hid (OwnV.nil _ _ _ _), Lib.hid (by rw [HW0.out]; exact Below.refl _ _)⟩
  case round =>
    obtain ⟨k, hk, rfl, HO, HB⟩ := hrel
    have hsz := HB.out.size
    by_cases hlt : k < n
    · obtain ⟨rfl, hbw⟩ := ha (by omega)
      obtain ⟨⟨t, q, z⟩, hx⟩ : ∃ x, own[k]? = some x := ⟨_, List.getElem?_eq_getElem (by rw [HN.out]; exact hlt)⟩
      obtain ⟨c0, c1, c2⟩ := HC.out k (t, q, z) hx
      dsimp only at c0 c1 c2
      rw [← HB.out.cell (p := ⟨b, o + k * 3, none⟩) hbw] at c0
      rw [← HB.out.cell (p := ⟨b, o + k * 3 + 1, none⟩) hbw] at c1
      rw [← HB.out.cell (p := ⟨b, o + k * 3 + 2, none⟩) hbw] at c2
      have HFS := Lib.hid (foldl_snoc (stepM p) [] hx)
      have hcl := HML.out k
      obtain ⟨cur, hcur⟩ : ∃ cur, (own.take k).foldl (stepM p) [] = cur := ⟨_, rfl⟩
      rw [hcur] at HO HFS hcl
      have HCL := Lib.hid hcl
      have HBW := Lib.hid (HB.out.alloc hsz (.cells #[.string (bsT t), .string (bsT q), .bool z] 53))
      have A1 := (Below.refl wr.heap.size wr).alloc (Nat.le_refl _) (.cells #[.string (bsT t), .string (bsT q), .bool z] 53)
      have HO2 := Lib.hid (OwnV.on HO.out A1)
      have HX3 := Lib.hid (Box3.new wr (.string (bsT t)) (.string (bsT q)) (.bool z) 53)
      have FO := for_len (bsT t) _ cur (by omega) (wr.alloc (.cells #[.string (bsT t), .string (bsT q), .bool z] 53)) HO2.out.holds
      rw [bytesOf] at FO
      obtain ⟨b0, b1, b2⟩ := HX3.out
      obtain ⟨sa, sc, rfl⟩ := OwnV.form HO.out
      rw [List.length_map] at FO HO HO2 ⊢
      have HX : Hid ((bsT t).data.toList = t) := Lib.hid (by rw [bytesOf])
      by_cases hf : (forI cur t).length = 0
      · rw [hf] at FO
        have HK : Hid ((own.take (k + 1)).foldl (stepM p) [] = cur ++ [(t, p, z)]) := Lib.hid (by rw [HFS.out, stepM, if_pos hf])
        have hkk : wr.cell? ⟨w.heap.size, 0, none⟩ = some (.string K) := (HB.out.cell (p := ⟨w.heap.size, 0, none⟩) hB1).trans HK0.out
        have HKW := Lib.hid ((HBW.out.cell (p := ⟨w.heap.size, 0, none⟩) hB1).trans HK0.out)
        have hlw : w.heap.size < (wr.alloc (.cells #[.string (bsT t), .string (bsT q), .bool z] 53)).heap.size := Nat.lt_of_lt_of_le hB1 HBW.out.size
        have HLW := Lib.hid hlw
        clear hf hx hcur HFS hcl A1 hlw
        generalize bsT t = X at *
        generalize bsT q = Y at *
        go_wp2_with (first
          | (go_at_call 28; (with_reducible refine FO.mono ?_); rintro e w2 ⟨fa, fc, rfl, hb⟩; have HB2 := Lib.hid (HBW.out.trans (hb.mono HBW.out.size)); have HO3 := Lib.hid (OwnV.on HO2.out hb); obtain ⟨x0, x1, x2⟩ := HX3.out.on hb; have xk := (hb.cell (p := ⟨w.heap.size, 0, none⟩) HLW.out).trans HKW.out; have hsz2 := HB2.out.size; clear hb FO)
          | (at_builtin; refine wpList_append_own _ rfl _ _ 22 rfl W0.heap.size 53 i0 _ 3 40 Tryz.underlying22 hi hz0 hz1 hz2' rfl (by decide) _ _ _ rfl (World.ownsRow.alloc HO3.out.2 _) ⟨w2.heap.size, 0, none⟩ 1 1 [.string X, .string K, .bool z] rfl rfl ?c1 ?c2 ?c3 ?c4 ?c5 ?_))
        case c1 =>
          intro j u hj
          match j, hj with
          | 0, hj => simp at hj; subst hj; simp [Addr.add]
          | 1, hj => simp at hj; subst hj; simp [Addr.add]
          | 2, hj => simp at hj; subst hj; simp [Addr.add]
        case c2 => intro u hu; simp at hu; rcases hu with rfl | rfl | rfl <;> rfl
        case c3 => rw [List.length_map]; have := HCL.out; unfold maxLen; omega
        case c4 => rw [List.length_map]; have := HCL.out; omega
        case c5 => simp; omega
        · intro v' w3 hown' hgrow _
          have HO4 : Hid (OwnI w3 W0.heap.size v' ((own.take (k + 1)).foldl (stepM p) [])) := Lib.hid (by rw [HK.out]; exact OwnI.app (x := (t, p, z)) HX.out HKP.out (by simpa using hown'))
          have HB3 : Hid (Below W0.heap.size W0 w3) := Lib.hid (OwnV.below HB2.out HO3.out hgrow (Nat.le_refl _) hsz2)
          clear hown' hgrow
          go_wp2
          go_roundw
          case rel => exact ⟨k + 1, by omega, by go_num, HO4, HB3⟩
          case measure => simp [intOf]; omega
      · have HK : Hid ((own.take (k + 1)).foldl (stepM p) [] = cur) := Lib.hid (by rw [HFS.out, stepM, if_neg hf])
        have hne : ¬ (((forI cur t).length : Int) = 0) := by omega
        clear hf hx hcur HFS hcl A1
        generalize (forI cur t).length = nf at *
        generalize bsT t = X at *
        generalize bsT q = Y at *
        go_wp2_with (go_at_call 28; (with_reducible refine FO.mono ?_); rintro e w2 ⟨fa, fc, rfl, hb⟩; have HB2 := Lib.hid (HBW.out.trans (hb.mono HBW.out.size)); have HO3 := Lib.hid (OwnV.on HO2.out hb); clear hb FO)
        go_roundw
        case rel => exact ⟨k + 1, by omega, by go_num, Lib.hid (by rw [HK.out]; exact HO3.out), HB2⟩
        case measure => simp [intOf]; omega
    · obtain rfl : k = n := by omega
      have HF : Hid ((own.take k).foldl (stepM p) [] = moreI own p) := Lib.hid (by rw [List.take_of_length_le (by rw [HN.out]; omega)]; rfl)
      have HMK := HML.out k
      rw [HF.out] at HO HMK
      have hkw := (HB.out.cell (p := ⟨w.heap.size, 0, none⟩) hB1).trans HK0.out
      have T := those_any 54 #[.pointer (some ⟨w.heap.size, 0, none⟩)] (enters_of Tryz.func54 (by kernel_rfl) rfl) _ _ l (by have := HLL.out; omega) wr (HoldV.on HV.out HB.out) (setP_any K w.heap.size wr hkw)
      rw [HKP.out] at T
      unfold ThosePost at T
      have MG := fun x W (h1 : HoldI W x (othI l p)) (hb : Below wr.heap.size wr W) => merged_any x _ (othI l p) (moreI own p) (Nat.le_trans (List.length_filter_le _ _) HLL.out) HMK W h1 (HoldV.on HO.out.holds hb)
      unfold MergedPost cpI at MG
      have HS : Hid ((moreI own p).foldl putI (othI l p) = setI l p own) := Lib.hid rfl
      have hoth : l.filter (pkgNot p) = othI l p := rfl
      rw [hoth] at T
      rw [HS.out] at MG
      obtain ⟨sa, sc, rfl⟩ := OwnV.form HO.out
      generalize ((moreI own p).map cellsI).length = nm at *
      clear hlt hoth hkw
      have HBW := Lib.hid (HB0.out.trans (HB.out.mono HB0.out.size))
      go_wp2_with (first
        | (go_at_call 53; (with_reducible refine T.mono ?_); rintro e w2 ⟨v2, rfl, ho, hb⟩; have HH2 := Lib.hid (OwnV.holds ho); have HBT := Lib.hid hb; have HB2 := Lib.hid (HBW.out.trans (hb.mono HBW.out.size)); clear ho hb T)
        | (go_at_call 55; (with_reducible refine (MG _ _ HH2.out HBT.out).mono ?_); rintro e w4 ⟨v4, rfl, ho, hb⟩; have HO4 := Lib.hid (OwnV.mono ho HB2.out.size); have HB4 := Lib.hid (HB2.out.trans (hb.mono HB2.out.size)); clear ho hb MG))
      go_ret
      exact HPOST.out _ _ HO4.out HB4.out
end Go.Proofs.YtceohgjfjndcmaaGreatDoor
namespace Go.Proofs.YtceohgjfjndcmaaGreatDoor.trigsSetsw
open Go.RowKit
theorem of_len (K : ByteArray) (v : Value) (l : List It) (hl : l.length ≤ 90000) (w : World) (h : HoldI w v l) :
    Calls Tryz.prog 26 #[v, .string K] w fun e w' => ∃ a c, e = .returned (.slice a (ofI l K.data.toList).length c) ∧ Below w.heap.size w w' :=
  (of_any K v l hl w h).mono (fun e w' ⟨v', he, ho, hb⟩ => by
    obtain ⟨a, c, rfl⟩ := OwnV.form ho
    rw [List.length_map] at he
    exact ⟨a, c, he, hb⟩)
set_option maxRecDepth 100000 in
set_option maxHeartbeats 8000000 in
theorem walk (v0 : Value) (l : List It) (bl0 : l.length ≤ maxLen) (bs0 : ∀ x ∈ l, x.1.length ≤ maxLen ∧ x.2.1.length ≤ maxLen) (K : ByteArray) (bK : K.size ≤ 9223372036854775807) (v2 : Value) (own : List It) (bl2 : own.length ≤ maxLen) (bs2 : ∀ x ∈ own, x.1.length ≤ maxLen ∧ x.2.1.length ≤ maxLen) (w : World) (h0 : HoldI w v0 l) (h2 : HoldI w v2 own) (hL : LaidP w) :
    Calls Tryz.prog 6 #[v0, .string K, v2] w fun e' w' => e' = .returned (.bool true) ∧ Below w.heap.size w w' := by
  have AW := fun W (hb : Below w.heap.size w W) => awake12 W (hL.on hb)
  have FE1 := fewI_any v0 l w bl0 bs0 h0
  have FE2 := fewI_any v2 own w bl2 bs2 h2
  unfold FewPostI at FE1 FE2
  have HR := Lib.hid (Below.refl w.heap.size w)
  have H0 := Lib.hid h0
  have H2 := Lib.hid h2
  obtain ⟨a0, c0, -, -, rfl, -, -, -⟩ := HoldI.parts h0
  obtain ⟨a2, c2, -, -, rfl, -, -, -⟩ := HoldI.parts h2
  clear h0 h2 hL bl0 bs0 bl2 bs2
  by_cases hf : FewI l
  case neg =>
    rw [fewI_no hf] at FE1
    clear hf FE2
    generalize l.length = n0 at *
    generalize own.length = n2 at *
    go_enter Tryz.func6, Tryz.ntmps6
    go_wp2_with (first
      | (go_at_call 7; with_reducible refine FE1.mono ?_; rintro e w1 ⟨rfl, rfl⟩; clear FE1)
      | (go_at_call 8; refine (AW _ HR.out).mono ?_; rintro e w9 ⟨rfl, hb⟩; have HB9 := Lib.hid (HR.out.trans (hb.mono HR.out.size)); clear hb))
    go_ret
    exact ⟨rfl, HB9.out⟩
  rw [fewI_yes hf] at FE1
  by_cases hg : FewI own
  case neg =>
    rw [fewI_no hg] at FE2
    clear hf hg
    generalize l.length = n0 at *
    generalize own.length = n2 at *
    go_enter Tryz.func6, Tryz.ntmps6
    go_wp2_with (first
      | (go_at_call 7; with_reducible refine FE1.mono ?_; rintro e w1 ⟨rfl, rfl⟩; clear FE1)
      | (go_at_call 7; with_reducible refine FE2.mono ?_; rintro e w1 ⟨rfl, rfl⟩; clear FE2)
      | (go_at_call 8; refine (AW _ HR.out).mono ?_; rintro e w9 ⟨rfl, hb⟩; have HB9 := Lib.hid (HR.out.trans (hb.mono HR.out.size)); clear hb))
    go_ret
    exact ⟨rfl, HB9.out⟩
  rw [fewI_yes hg] at FE2
  by_cases hk : 300 < K.size
  · clear hf hg
    generalize l.length = n0 at *
    generalize own.length = n2 at *
    go_enter Tryz.func6, Tryz.ntmps6
    go_wp2_with (first
      | (go_at_call 7; with_reducible refine FE1.mono ?_; rintro e w1 ⟨rfl, rfl⟩; clear FE1)
      | (go_at_call 7; with_reducible refine FE2.mono ?_; rintro e w1 ⟨rfl, rfl⟩; clear FE2)
      | (go_at_call 8; refine (AW _ HR.out).mono ?_; rintro e w9 ⟨rfl, hb⟩; have HB9 := Lib.hid (HR.out.trans (hb.mono HR.out.size)); clear hb))
    go_ret
    exact ⟨rfl, HB9.out⟩
  have hl0 := hf.1
  have hl2 := hg.1
  obtain ⟨p, hp⟩ : ∃ p, K.data.toList = p := ⟨_, rfl⟩
  have hsl := set_len l p own
  have hso := set_of l p own
  have S1 := fun W (hb : Below w.heap.size w W) => set_any K _ _ l own (by omega) (by omega) W (HoldV.on H0.out hb) (HoldV.on H2.out hb)
  have S2 := fun W (hb : Below w.heap.size w W) => set_ref K _ _ l own (by omega) (by omega) W (HoldV.on H0.out hb) (HoldV.on H2.out hb)
  have O1 := fun W (hb : Below w.heap.size w W) => of_any K _ l (by omega) W (HoldV.on H0.out hb)
  have O2 := fun W (hb : Below w.heap.size w W) => of_ref K _ l (by omega) W (HoldV.on H0.out hb)
  have F1 := fun W (hb : Below w.heap.size w W) => for_any K _ l (by omega) W (HoldV.on H0.out hb)
  have F2 := fun W (hb : Below w.heap.size w W) => for_ref K _ l (by omega) W (HoldV.on H0.out hb)
  have O3 := fun v W (h : HoldI W v (setI l p own)) => of_len K v (setI l p own) (by omega) W h
  have SA1 := fun u v W (h1 : HoldI W u (setI l p own)) (h2 : HoldI W v (setI l p own)) => sameI_ref u v _ (by omega) W h1 h2
  have hfo : (l.filter (pkgOf p)).length ≤ 90000 := Nat.le_trans (List.length_filter_le _ _) (by omega)
  have hff : (l.filter (trigOf p)).length ≤ 90000 := Nat.le_trans (List.length_filter_le _ _) (by omega)
  have SA2 := fun u v W (h1 : HoldI W u (l.filter (pkgOf p))) (h2 : HoldI W v (l.filter (pkgOf p))) => sameI_ref u v _ hfo W h1 h2
  have SA3 := fun u v W (h1 : HoldI W u (l.filter (trigOf p))) (h2 : HoldI W v (l.filter (trigOf p))) => sameI_ref u v _ hff W h1 h2
  unfold SetPost at S1
  unfold RSetPost at S2
  unfold ThosePost at O1 O2 F1 F2
  rw [hp] at S1 S2 O1 O2 F1 F2 O3
  have jle : ((ofI (setI l p own) p).length : Int) ≤ (own.length : Int) := by omega
  generalize (ofI (setI l p own) p).length = nf at *
  generalize hA : setI l p own = A at *
  generalize l.filter (pkgOf p) = B at *
  generalize l.filter (trigOf p) = C at *
  clear hf hg hp hsl hso hfo hff hA bK
  generalize l.length = n0 at *
  generalize own.length = n2 at *
  go_enter Tryz.func6, Tryz.ntmps6
  go_wp2_with (first
    | (go_at_call 7; with_reducible refine FE1.mono ?_; rintro e w1 ⟨rfl, rfl⟩; clear FE1)
    | (go_at_call 7; with_reducible refine FE2.mono ?_; rintro e w1 ⟨rfl, rfl⟩; clear FE2)
    | (go_at_call 24; (with_reducible refine (S1 _ HR.out).mono ?_); rintro e w2 ⟨v2, rfl, ho, hb⟩; have HV2 := Lib.hid (OwnV.holds ho); have HB2 := Lib.hid (HR.out.trans (hb.mono HR.out.size)); clear ho hb S1)
    | (go_at_call 25; (with_reducible refine (S2 _ HB2.out).mono ?_); rintro e w3 ⟨v3, rfl, ho, hb⟩; have HV3 := Lib.hid (OwnV.holds ho); have HB3 := Lib.hid (HB2.out.trans (hb.mono HB2.out.size)); have HV2a := Lib.hid (HoldV.on HV2.out hb); clear ho hb S2)
    | (go_at_call 14; (with_reducible refine (SA1 _ _ _ HV2a.out HV3.out).mono ?_); rintro e w4 ⟨rfl, q, rfl⟩; have HB4 := Lib.hid (belowQ HB3.out q); have HV2b := Lib.hid (HoldV.on HV2a.out (belowQ (Below.refl _ _) q)); clear SA1)
    | (go_at_call 26; (with_reducible refine (O1 _ HB4.out).mono ?_); rintro e w5 ⟨v5, rfl, ho, hb⟩; have HV5 := Lib.hid (OwnV.holds ho); have HB5 := Lib.hid (HB4.out.trans (hb.mono HB4.out.size)); have HV2c := Lib.hid (HoldV.on HV2b.out hb); clear ho hb O1)
    | (go_at_call 27; (with_reducible refine (O2 _ HB5.out).mono ?_); rintro e w6 ⟨v6, rfl, ho, hb⟩; have HV6 := Lib.hid (OwnV.holds ho); have HB6 := Lib.hid (HB5.out.trans (hb.mono HB5.out.size)); have HV2d := Lib.hid (HoldV.on HV2c.out hb); have HV5a := Lib.hid (HoldV.on HV5.out hb); clear ho hb O2)
    | (go_at_call 14; (with_reducible refine (SA2 _ _ _ HV5a.out HV6.out).mono ?_); rintro e w7 ⟨rfl, q, rfl⟩; have HB7 := Lib.hid (belowQ HB6.out q); have HV2e := Lib.hid (HoldV.on HV2d.out (belowQ (Below.refl _ _) q)); clear SA2)
    | (go_at_call 28; (with_reducible refine (F1 _ HB7.out).mono ?_); rintro e w8 ⟨v8, rfl, ho, hb⟩; have HV8 := Lib.hid (OwnV.holds ho); have HB8 := Lib.hid (HB7.out.trans (hb.mono HB7.out.size)); have HV2f := Lib.hid (HoldV.on HV2e.out hb); clear ho hb F1)
    | (go_at_call 29; (with_reducible refine (F2 _ HB8.out).mono ?_); rintro e w10 ⟨v10, rfl, ho, hb⟩; have HV10 := Lib.hid (OwnV.holds ho); have HB10 := Lib.hid (HB8.out.trans (hb.mono HB8.out.size)); have HV2g := Lib.hid (HoldV.on HV2f.out hb); have HV8a := Lib.hid (HoldV.on HV8.out hb); clear ho hb F2)
    | (go_at_call 14; (with_reducible refine (SA3 _ _ _ HV8a.out HV10.out).mono ?_); rintro e w11 ⟨rfl, q, rfl⟩; have HB11 := Lib.hid (belowQ HB10.out q); have HV2h := Lib.hid (HoldV.on HV2g.out (belowQ (Below.refl _ _) q)); clear SA3)
    | (go_at_call 26; (with_reducible refine (O3 _ _ HV2h.out).mono ?_); rintro e w12 ⟨fa, fc, rfl, hb⟩; have HB12 := Lib.hid (HB11.out.trans (hb.mono HB11.out.size)); clear hb O3)
    | (go_at_call 8; refine (AW _ HB12.out).mono ?_; rintro e w9 ⟨rfl, hb⟩; have HB9 := Lib.hid (HB12.out.trans (hb.mono HB12.out.size)); clear hb))
  go_ret
  exact ⟨rfl, HB9.out⟩
end Go.Proofs.YtceohgjfjndcmaaGreatDoor.trigsSetsw
