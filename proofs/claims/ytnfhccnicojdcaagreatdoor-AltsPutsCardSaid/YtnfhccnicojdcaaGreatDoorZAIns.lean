/-
  Alternatives, as rows of six cells: slices.Insert of one; nothing old turns.
-/
import Derived.Test.YtnfhccnicojdcaaGreatDoorZAPutP
import Derived.Test.YtnfhccnicojdcaaGreatDoorIns
import Derived.Shelf.Spec.SlicesInsert
namespace Go.Proofs.YtnfhccnicojdcaaGreatDoor
open Go.RowKit Go.Lib
theorem ins_takeZa {A Y : List Value} {p : Nat} (h : p + 6 ≤ A.length) : (A.take (p + 6) ++ Y).take p = A.take p := by
  rw [List.take_append_of_le_length (by rw [List.length_take]; omega), List.take_take, show min p (p + 6) = p by omega]
theorem ins_dropZa {A Y : List Value} {p : Nat} (h : p + 6 ≤ A.length) : (A.take (p + 6) ++ Y).drop (p + 6) = Y := List.drop_left' (by rw [List.length_take]; omega)
def InsPostZa (base n i : Nat) (v : Value) (xs vs : List Value) (w : World) (e : Ending) (w' : World) : Prop :=
  ∃ v', e = .returned v' ∧ w'.ownsRow base 26 6 v' (n + 1) (xs.take (i * 6) ++ vs ++ xs.drop (i * 6)) ∧ w.grownBy w' v.ownBlock
set_option maxRecDepth 100000 in
set_option maxHeartbeats 4000000 in
theorem ins_endZa (base n : Nat) (v : Value) (xs vs : List Value) (w : World) (hown : w.ownsRow base 26 6 v n xs) (hn : n ≤ 90000) (vb : Nat) (hvl : vs.length = 6) (hvs : ∀ j u, vs[j]? = some u → w.cell? ⟨vb, 0 + j, none⟩ = some u) (h1v : ∀ u ∈ vs, u.oneCell' = true) (hbase : base ≤ w.heap.size) :
    Calls Tryz.prog 77 #[v, .int .i64 n, .slice (some ⟨vb, 0, none⟩) 1 1] w fun e w' => ∃ v', e = .returned v' ∧ w'.ownsRow base 26 6 v' (n + 1) (xs ++ vs) ∧ w.grownBy w' v.ownBlock := by
  obtain ⟨i0, hi, hz0, hz1, hz2'⟩ := info_parts infoOZa
  obtain ⟨a, c, rfl⟩ : ∃ a c, v = .slice a n c := by
    rcases hown.2 with ⟨rfl, h⟩ | ⟨g, cap, cur, rfl, _⟩
    · exact ⟨none, 0, by rw [h]⟩
    · exact ⟨_, _, rfl⟩
  have hnc : n ≤ c := by
    rcases hown.2 with ⟨h, h0⟩ | ⟨g, cap, cur, h, _, _, h1, _⟩
    · omega
    · simp only [Value.slice.injEq] at h; omega
  have hnone : a = none → n = 0 ∧ c = 0 := fun e => by
    subst e
    rcases hown.2 with ⟨h, h0⟩ | ⟨g, cap, cur, h, _⟩
    · simp only [Value.slice.injEq] at h; exact ⟨h0, h.2.2⟩
    · simp at h
  have hsp : ∀ A, a = some A → ∃ g, A = ⟨g, 0, none⟩ := fun A e => by
    subst e
    rcases hown.2 with ⟨h, h0⟩ | ⟨g, cap, cur, h, _⟩
    · simp at h
    · simp only [Value.slice.injEq, Option.some.injEq] at h; exact ⟨g, h.1⟩
  have HO := Lib.hid hown
  have HV := Lib.hid hvs
  have HV1 := Lib.hid h1v
  clear hown hvs h1v
  go_enter Tryz.func77, Tryz.ntmps77
  cases a with
  | none =>
    obtain ⟨rfl, rfl⟩ := hnone rfl
    clear hnone hsp
    go_wp2_with (at_builtin; refine wpList_append_own _ rfl _ _ 27 rfl base 26 i0 _ 6 104 Tryz.underlying27 hi hz0 hz1 hz2' rfl (by decide) _ _ _ rfl HO.out ⟨vb, 0, none⟩ 1 1 vs rfl (by omega) (fun j u hj => by rw [Addr.add_lit]; exact HV.out j u hj) HV1.out (by unfold maxLen; omega) (by omega) hbase ?_)
    intro v' w3 hown' hgrow _
    have H1 := Lib.hid hown'
    have H2 := Lib.hid hgrow
    clear hown' hgrow
    go_wp2
    go_ret
    exact ⟨_, rfl, H1.out, H2.out⟩
  | some A =>
    obtain ⟨g, rfl⟩ := hsp A rfl
    clear hnone hsp
    go_wp2_with (at_builtin; refine wpList_append_own _ rfl _ _ 27 rfl base 26 i0 _ 6 104 Tryz.underlying27 hi hz0 hz1 hz2' rfl (by decide) _ _ _ rfl HO.out ⟨vb, 0, none⟩ 1 1 vs rfl (by omega) (fun j u hj => by rw [Addr.add_lit]; exact HV.out j u hj) HV1.out (by unfold maxLen; omega) (by omega) hbase ?_)
    all_goals
      intro v' w3 hown' hgrow _
      have H1 := Lib.hid hown'
      have H2 := Lib.hid hgrow
      clear hown' hgrow
      go_wp2
      go_ret
      exact ⟨_, rfl, H1.out, H2.out⟩
set_option maxRecDepth 100000 in
set_option maxHeartbeats 4000000 in
theorem ins_roomZa (base n c g : Nat) (cur : Array Value) (xs vs : List Value) (w : World) (hbg : base ≤ g) (hg : w.heap[g]? = some (.cells cur 26 (0, 0))) (hcm : c ≤ maxLen) (hcs : cur.size = c * 6) (hxs : cur.toList.take (n * 6) = xs) (hxl : xs.length = n * 6) (h1 : ∀ u ∈ xs, u.oneCell' = true) (i : Nat) (hi : i < n) (hroom : n + 1 ≤ c) (vb : Nat) (vt : TypeId) (hvl : vs.length = 6) (hv : w.heap[vb]? = some (.cells vs.toArray vt (0, 0))) (h1v : ∀ u ∈ vs, u.oneCell' = true) (hne : vb ≠ g) :
    Calls Tryz.prog 77 #[.slice (some ⟨g, 0, none⟩) n c, .int .i64 i, .slice (some ⟨vb, 0, none⟩) 1 1] w fun e w' => ∃ v', e = .returned v' ∧ w'.ownsRow base 26 6 v' (n + 1) (xs.take (i * 6) ++ vs ++ xs.drop (i * 6)) ∧ w.grownBy w' (some g) := by
  obtain ⟨i0, hi0, hz0, hz1, hz2'⟩ := info_parts infoOZa
  have hsz : (Tryz.prog.info? 26).map (·.size) = some 6 := by rw [hi0]; simp [hz1]
  have hgl : g < w.heap.size := (Array.getElem?_eq_some_iff.1 hg).1
  have hov : ∀ lb cb, (callFunc 112 #[.slice (some ⟨vb, 0, none⟩) 1 1, .slice (some ⟨g, (i + 1) * 6, none⟩) lb cb]).run Tryz.prog w = .ok (.value (.bool false)) w := fun lb cb => by
    rw [run_callFunc_extern Tryz.func112 (by kernel_rfl) (by kernel_rfl) (by kernel_rfl) (e := Extern.SlicesOverlaps.overlaps #[27, 27] #[4]) (by kernel_rfl),
      Lib.run_overlaps_apart w 27 4 26 Tryz.underlying27 6 Tryz.sizeOf26 ⟨vb, 0, none⟩ ⟨g, (i + 1) * 6, none⟩ 1 1 lb cb hne vt 26 vs.toArray.size cur.size (by simp [World.shape?, hv]) (by simp [World.shape?, hg]) (by omega) (by simp [World.frozen?, hv]) (by simp [World.frozen?, hv])]
    rfl
  have hdl : (xs.drop (i * 6)).length = (n - i) * 6 := by rw [List.length_drop, hxl]; omega
  have hAl : cur.toList.length = c * 6 := by rw [Array.length_toList, hcs]
  obtain ⟨R1, hR1⟩ : ∃ R1 : Array Value, R1 = (cur.toList.take ((i + 1) * 6) ++ xs.drop (i * 6) ++ cur.toList.drop ((i + 1) * 6 + (xs.drop (i * 6)).length)).toArray := ⟨_, rfl⟩
  obtain ⟨R2, hR2⟩ : ∃ R2 : Array Value, R2 = (R1.toList.take (i * 6) ++ vs ++ R1.toList.drop (i * 6 + vs.length)).toArray := ⟨_, rfl⟩
  have hR1l : R1.toList = cur.toList.take (i * 6 + 6) ++ (xs.drop (i * 6) ++ cur.toList.drop ((n + 1) * 6)) := by
    rw [hR1, hdl, show (i + 1) * 6 + (n - i) * 6 = (n + 1) * 6 by omega, show (i + 1) * 6 = i * 6 + 6 by omega]; simp
  have hR2l : R2.toList = (xs.take (i * 6) ++ vs ++ xs.drop (i * 6)) ++ cur.toList.drop ((n + 1) * 6) := by
    rw [hR2, List.toList_toArray, hR1l, hvl, ins_takeZa (by omega), ins_dropZa (by omega), ← hxs, List.take_take, show min (i * 6) (n * 6) = i * 6 by omega]
    simp
  have hR2s : R2.size = c * 6 := by
    rw [← Array.length_toList, hR2l]; simp only [List.length_append, List.length_take, List.length_drop, hvl, hxl, hAl]; omega
  have hR1s : R1.size = c * 6 := by
    rw [← Array.length_toList, hR1l]; simp only [List.length_append, List.length_take, List.length_drop, hxl, hAl]; omega
  have hcp1 : ∀ ty dc sc, (Builtin.copy_ #[27, 27] ty #[.slice (some ⟨g, (i + 1) * 6, none⟩) (n - i) dc, .slice (some ⟨g, i * 6, none⟩) (n + 1 - i) sc]).run Tryz.prog w.drew = .ok (goInt (n - i : Nat)) (w.drew.setRow g R1) := fun ty dc sc => by
    rw [hR1]
    exact run_copy_rowK Tryz.prog w.drew _ _ ty 26 g ((i + 1) * 6) (n - i) dc ⟨g, i * 6, none⟩ (n + 1 - i) sc cur 26 (xs.drop (i * 6)) 6 (n - i) Tryz.underlying27 hsz hg (by simp only [Nat.min_def]; split <;> omega) hdl
      (fun j u hj => by
        rw [Addr.add_lit]
        show w.cell? _ = _
        rw [cellRow w g _ cur 26 (0, 0) hg]
        rw [List.getElem?_drop, ← hxs, List.getElem?_take] at hj
        split at hj
        · rw [← Array.getElem?_toList]; exact hj
        · cases hj) (by rw [hdl, hcs]; omega) (fun u hu => h1 u (List.mem_of_mem_drop hu))
  obtain ⟨W1, hW1⟩ : ∃ W1, W1 = w.drew.setRow g R1 := ⟨_, rfl⟩
  have hW1g : W1.heap[g]? = some (.cells R1 26 (0, 0)) := by rw [hW1]; exact setRow_heap w.drew g cur R1 _ _ hg
  have hW1v : W1.heap[vb]? = some (.cells vs.toArray vt (0, 0)) := by rw [hW1, setRow_other w.drew g vb R1 hne]; exact hv
  have hcp2 : ∀ ty dc, (Builtin.copy_ #[27, 27] ty #[.slice (some ⟨g, i * 6, none⟩) (n + 1 - i) dc, .slice (some ⟨vb, 0, none⟩) 1 1]).run Tryz.prog W1 = .ok (goInt (1 : Nat)) (W1.setRow g R2) := fun ty dc => by
    rw [hR2]
    exact run_copy_rowK Tryz.prog W1 _ _ ty 26 g (i * 6) (n + 1 - i) dc ⟨vb, 0, none⟩ 1 1 R1 26 vs 6 1 Tryz.underlying27 hsz hW1g (by simp only [Nat.min_def]; split <;> omega) (by rw [hvl])
      (fun j u hj => by
        rw [Addr.add_lit, cellRow W1 vb _ vs.toArray vt (0, 0) hW1v]
        simpa using hj) (by rw [hvl, hR1s]; omega) h1v
  rw [← hW1] at hcp1
  have HE : Hid ((W1.setRow g R2).ownsRow base 26 6 (.slice (some ⟨g, 0, none⟩) (n + 1) c) (n + 1) (xs.take (i * 6) ++ vs ++ xs.drop (i * 6)) ∧ w.grownBy (W1.setRow g R2) (some g)) := Lib.hid (by
    refine ⟨⟨?_, .inr ⟨g, c, R2, rfl, hbg, setRow_heap W1 g R1 R2 _ _ hW1g, hroom, hcm, hR2s, ?_⟩⟩, ?_⟩
    · simp only [List.length_append, List.length_take, List.length_drop, hvl, hxl]; omega
    · rw [hR2l]
      exact List.take_left' (by simp only [List.length_append, List.length_take, List.length_drop, hvl, hxl]; omega)
    · subst hW1
      refine ⟨rfl, rfl, rfl, by simp, fun k hk hne2 => ?_⟩
      have : k ≠ g := fun e => hne2 (by rw [e])
      rw [setRow_other _ g k _ this, setRow_other _ g k _ this]; rfl)
  unfold maxLen at hcm
  clear hW1 hR1 hR2 hR1l hR2l hR2s hR1s hW1g hW1v hdl hAl hxs hxl hcs hsz hz0 hz1 hz2' hg hv
  have hz2 : ¬ ((i : Int) = (n : Int)) := by omega
  have hw1 : IntKind.i64.wrap ((i : Int) + 1) = (i : Int) + 1 := by rw [IntKind.wrap_i64]; omega
  have hw2 : IntKind.i64.wrap ((n : Int) + 1) = (n : Int) + 1 := by rw [IntKind.wrap_i64]; omega
  have htn : ((i : Int) + 1).toNat = i + 1 := by omega
  have htn2 : ((n : Int) + 1).toNat = n + 1 := by omega
  have hb2 : ¬ (c = i + 1) := by omega
  have hb4 : ¬ (c = i) := by omega
  have hin : i ≤ n := by omega
  have hb3 : (i : Int) ≤ (n : Int) + 1 := by omega
  have hb5 : ¬ ((c : Int) < (n : Int) + 1) := by omega
  have hb1 : (0 : Int) ≤ (i : Int) + 1 := by omega
  have mixed : Tryz.prog.follows Departure.mixedOrders = true := by kernel_rfl
  go_enter Tryz.func77, Tryz.ntmps77
  go_wp2_with (simp only [hov])
  go_region_law_o (refine step_copy_runI rfl _ _ 27 27 rfl _ _ (by simp [Act.eval, Act.put]) (by simp [Act.eval, Act.put]) (hcp1 _ _ _) ?_)
  go_wp2_with (at_builtin; refine wpList_copy_runI _ rfl _ _ 27 27 rfl _ _ rfl rfl (hcp2 _ _) ?_)
  go_ret
  exact ⟨_, rfl, HE.out.1, HE.out.2⟩
set_option maxRecDepth 100000 in
set_option maxHeartbeats 4000000 in
theorem ins_growZa (base n c g : Nat) (cur : Array Value) (xs vs : List Value) (w : World) (hbw : base ≤ w.heap.size) (hg : w.heap[g]? = some (.cells cur 26 (0, 0))) (hxs : cur.toList.take (n * 6) = xs) (hxl : xs.length = n * 6) (h1 : ∀ u ∈ xs, u.oneCell' = true) (i : Nat) (hi : i < n) (hn9 : n ≤ 90000) (hnc : n ≤ c) (hroom : c < n + 1) (vb : Nat) (vt : TypeId) (hvl : vs.length = 6) (hv : w.heap[vb]? = some (.cells vs.toArray vt (0, 0))) (h1v : ∀ u ∈ vs, u.oneCell' = true) :
    Calls Tryz.prog 77 #[.slice (some ⟨g, 0, none⟩) n c, .int .i64 i, .slice (some ⟨vb, 0, none⟩) 1 1] w fun e w' => ∃ v', e = .returned v' ∧ w'.ownsRow base 26 6 v' (n + 1) (xs.take (i * 6) ++ vs ++ xs.drop (i * 6)) ∧ w.grownBy w' (some g) := by
  obtain ⟨i0, hi0, hz0, hz1, hz2'⟩ := info_parts infoOZa
  have hsz : (Tryz.prog.info? 26).map (·.size) = some 6 := by rw [hi0]; simp [hz1]
  have hgl : g < w.heap.size := (Array.getElem?_eq_some_iff.1 hg).1
  have hvl2 : vb < w.heap.size := (Array.getElem?_eq_some_iff.1 hv).1
  have hdl : (xs.drop (i * 6)).length = (n - i) * 6 := by rw [List.length_drop, hxl]; omega
  have htl : (xs.take (i * 6)).length = i * 6 := by rw [List.length_take, hxl]; omega
  have hcell : ∀ (j : Nat) u, xs[j]? = some u → w.cell? ⟨g, j, none⟩ = some u := fun j u hj => by
    rw [cellRow w g _ cur 26 (0, 0) hg]
    rw [← hxs, List.getElem?_take] at hj
    split at hj
    · rw [← Array.getElem?_toList]; exact hj
    · cases hj
  have hkk : (n : Int) + 1 - (i : Int) = ((n + 1 - i : Nat) : Int) := by omega
  have hik : i + (n + 1 - i) = n + 1 := by omega
  have hold : (Builtin.firstCells i0.size i (.slice (some ⟨g, 0, none⟩) i c)).run Tryz.prog w.drew = .ok (xs.take (i * 6)).toArray w.drew := by
    rw [hz1]
    exact run_firstCells_some w.drew 6 i ⟨g, 0, none⟩ i c (xs.take (i * 6)) htl (fun j u hj => by
      rw [Addr.add_lit, Nat.zero_add]
      rw [List.getElem?_take] at hj
      split at hj
      · exact hcell j u hj
      · cases hj)
  obtain ⟨G, hG⟩ : ∃ G, G = grownCap w (n + 1) c 26 := ⟨_, rfl⟩
  obtain ⟨ROW, hROW⟩ : ∃ ROW : Array Value, ROW = (xs.take (i * 6)).toArray ++ Builtin.zeroCells (Value.agg #[Value.string { data := #[] }, Value.string { data := #[] }, Value.bool false, Value.string { data := #[] }, Value.slice none 0 0, Value.slice none 0 0]).cells (n + 1 - i) ++ Builtin.zeroCells (Value.agg #[Value.string { data := #[] }, Value.string { data := #[] }, Value.bool false, Value.string { data := #[] }, Value.slice none 0 0, Value.slice none 0 0]).cells (G - (n + 1)) := ⟨_, rfl⟩
  have hrz : ∀ ty, (Builtin.append_ #[27, 3] ty #[.slice (some ⟨g, 0, none⟩) i c, .int .i64 ((n : Int) + 1 - (i : Int))]).run Tryz.prog w =
      .ok (.slice (some ⟨w.heap.size, 0, none⟩) (n + 1) G) (w.drew.alloc (.cells ROW 26)) := fun ty => by
    have h := Lib.run_append_grow_zeros w 27 3 ty 26 i0 _ .i64 .i64 Tryz.underlying27 Tryz.underlying3 hi0 hz0 (some ⟨g, 0, none⟩) i c (xs.take (i * 6)) hold (n + 1 - i) (by omega) (by omega) (by omega) (by omega) (by rw [hz2']; omega) (by rw [hz2', hik]; exact growslice_fits hroom (by omega))
    rw [hik] at h
    rw [hkk, hG, hROW, hG]
    exact h
  have hGn : n + 1 ≤ G := by rw [hG]; exact grownCap_ge w _ _ _
  have hG63 : G ≤ maxLen := by rw [hG]; exact grownCap_le_maxLen w (n + 1) c _ (by unfold maxLen; omega)
  have hRs : ROW.size = G * 6 := by
    rw [hROW, Array.size_append, Array.size_append, size_zeroCells, size_zeroCells, show (Value.agg #[Value.string { data := #[] }, Value.string { data := #[] }, Value.bool false, Value.string { data := #[] }, Value.slice none 0 0, Value.slice none 0 0]).cells.size = 6 from rfl, List.size_toArray, htl]; omega
  have hRl : ROW.toList.length = G * 6 := by rw [Array.length_toList, hRs]
  have hRt : ROW.toList.take (i * 6) = xs.take (i * 6) := by
    rw [hROW, Array.toList_append, Array.toList_append, List.append_assoc]
    exact List.take_left' htl
  obtain ⟨R1, hR1⟩ : ∃ R1 : Array Value, R1 = (ROW.toList.take (i * 6) ++ vs ++ ROW.toList.drop (i * 6 + vs.length)).toArray := ⟨_, rfl⟩
  obtain ⟨R2, hR2⟩ : ∃ R2 : Array Value, R2 = (R1.toList.take ((i + 1) * 6) ++ xs.drop (i * 6) ++ R1.toList.drop ((i + 1) * 6 + (xs.drop (i * 6)).length)).toArray := ⟨_, rfl⟩
  have hR1t : R1.toList.take ((i + 1) * 6) = xs.take (i * 6) ++ vs := by
    rw [hR1, List.toList_toArray, hRt]
    exact List.take_left' (by rw [List.length_append, htl, hvl]; omega)
  have hR1s : R1.size = G * 6 := by
    rw [← Array.length_toList, hR1]; simp only [List.length_append, List.length_take, List.length_drop, hvl, hRl]; omega
  have hR1l : R1.toList.length = G * 6 := by rw [Array.length_toList, hR1s]
  have hR2s : R2.size = G * 6 := by
    rw [← Array.length_toList, hR2]; simp only [List.length_append, List.length_take, List.length_drop, hxl, hR1l]; omega
  have hR2t : R2.toList.take ((n + 1) * 6) = xs.take (i * 6) ++ vs ++ xs.drop (i * 6) := by
    rw [hR2, List.toList_toArray, hR1t]
    exact List.take_left' (by simp only [List.length_append, List.length_take, List.length_drop, hvl, hxl]; omega)
  obtain ⟨W1, hW1⟩ : ∃ W1, W1 = w.drew.alloc (.cells ROW 26) := ⟨_, rfl⟩
  rw [← hW1] at hrz
  obtain ⟨N, hN⟩ : ∃ N, N = w.heap.size := ⟨_, rfl⟩
  have hW1N : W1.heap[N]? = some (.cells ROW 26 (0, 0)) := by rw [hW1, hN]; exact heap_alloc_new w.drew _
  have hW1o : ∀ k, k < w.heap.size → W1.heap[k]? = w.heap[k]? := fun k hk => by rw [hW1]; exact heap_alloc_old w.drew _ hk
  have hcpA : ∀ ty dc, (Builtin.copy_ #[27, 27] ty #[.slice (some ⟨N, i * 6, none⟩) (n + 1 - i) dc, .slice (some ⟨vb, 0, none⟩) 1 1]).run Tryz.prog W1 = .ok (goInt (1 : Nat)) (W1.setRow N R1) := fun ty dc => by
    rw [hR1]
    exact run_copy_rowK Tryz.prog W1 _ _ ty 26 N (i * 6) (n + 1 - i) dc ⟨vb, 0, none⟩ 1 1 ROW 26 vs 6 1 Tryz.underlying27 hsz hW1N (by simp only [Nat.min_def]; split <;> omega) (by rw [hvl])
      (fun j u hj => by
        rw [Addr.add_lit, cellRow W1 vb _ vs.toArray vt (0, 0) ((hW1o vb hvl2).trans hv)]
        simpa using hj) (by rw [hvl, hRs]; omega) h1v
  obtain ⟨W2, hW2⟩ : ∃ W2, W2 = W1.setRow N R1 := ⟨_, rfl⟩
  rw [← hW2] at hcpA
  have hW2N : W2.heap[N]? = some (.cells R1 26 (0, 0)) := by rw [hW2]; exact setRow_heap W1 N ROW R1 _ _ hW1N
  have hW2o : ∀ k, k < w.heap.size → W2.heap[k]? = w.heap[k]? := fun k hk => by rw [hW2, setRow_other W1 N k R1 (by omega)]; exact hW1o k hk
  have hcpB : ∀ ty dc sc, (Builtin.copy_ #[27, 27] ty #[.slice (some ⟨N, (i + 1) * 6, none⟩) (n - i) dc, .slice (some ⟨g, i * 6, none⟩) (n - i) sc]).run Tryz.prog W2.drew = .ok (goInt (n - i : Nat)) (W2.drew.setRow N R2) := fun ty dc sc => by
    rw [hR2]
    exact run_copy_rowK Tryz.prog W2.drew _ _ ty 26 N ((i + 1) * 6) (n - i) dc ⟨g, i * 6, none⟩ (n - i) sc R1 26 (xs.drop (i * 6)) 6 (n - i) Tryz.underlying27 hsz hW2N (by simp only [Nat.min_def]; split <;> omega) hdl
      (fun j u hj => by
        rw [Addr.add_lit]
        rw [List.getElem?_drop] at hj
        have := hcell _ u hj
        show W2.cell? _ = _
        rw [World.cell?_of_block (w := w) (hW2o g hgl)]
        exact this) (by rw [hdl, hR1s]; omega) (fun u hu => h1 u (List.mem_of_mem_drop hu))
  have HE : Hid ((W2.drew.setRow N R2).ownsRow base 26 6 (.slice (some ⟨N, 0, none⟩) (n + 1) G) (n + 1) (xs.take (i * 6) ++ vs ++ xs.drop (i * 6)) ∧ w.grownBy (W2.drew.setRow N R2) (some g)) := Lib.hid (by
    refine ⟨⟨?_, .inr ⟨N, G, R2, rfl, by omega, setRow_heap W2.drew N R1 R2 _ _ hW2N, hGn, hG63, hR2s, hR2t⟩⟩, ?_⟩
    · simp only [List.length_append, List.length_take, List.length_drop, hvl, hxl]; omega
    · refine ⟨by subst hW2 hW1; rfl, by subst hW2 hW1; rfl, by subst hW2 hW1; rfl, by subst hW2 hW1; simp, fun k hk hne2 => ?_⟩
      rw [setRow_other _ N k _ (by omega)]
      exact hW2o k hk)
  unfold maxLen at hG63
  rw [← hN] at hrz
  clear hW1 hW2 hW1N hW2N hW1o hW2o hR1 hR2 hR1l hR2s hR2t hR1s hR1t hROW hRs hRl hRt hold hdl htl hxs hxl hsz hz0 hz1 hz2' hg hv hcell hN hG hkk hik
  have hz2 : ¬ ((i : Int) = (n : Int)) := by omega
  have hz3 : (c : Int) < (n : Int) + 1 := by omega
  have hw1 : IntKind.i64.wrap ((i : Int) + 1) = (i : Int) + 1 := by rw [IntKind.wrap_i64]; omega
  have hw2 : IntKind.i64.wrap ((n : Int) + 1) = (n : Int) + 1 := by rw [IntKind.wrap_i64]; omega
  have hw3 : IntKind.i64.wrap ((n : Int) + 1 - (i : Int)) = (n : Int) + 1 - (i : Int) := by rw [IntKind.wrap_i64]; omega
  have htn : ((i : Int) + 1).toNat = i + 1 := by omega
  have hb1 : (0 : Int) ≤ (i : Int) + 1 := by omega
  have hGi : ¬ (G = i) := by omega
  have hGim : ¬ (G = i + 1) := by omega
  have hci : ¬ (c = i) := by omega
  have hin : i ≤ n := by omega
  have hb3 : (i : Int) ≤ (n : Int) := by omega
  have mixed : Tryz.prog.follows Departure.mixedOrders = true := by kernel_rfl
  go_enter Tryz.func77, Tryz.ntmps77
  go_wp2_with (first
    | (at_builtin; refine Lib.wpList_append_run _ rfl _ _ _ _ rfl _ _ rfl rfl _ _ (hrz _) ?_)
    | (at_builtin; refine wpList_copy_runI _ rfl _ _ 27 27 rfl _ _ rfl rfl (hcpA _ _) ?_))
  go_region_law_o (refine step_copy_runI rfl _ _ 27 27 rfl _ _ (by simp [Act.eval, Act.put]) (by simp [Act.eval, Act.put]) (hcpB _ _ _) ?_)
  go_wp2
  go_ret
  exact ⟨_, rfl, HE.out.1, HE.out.2⟩
theorem insert_ownZa (base n : Nat) (v : Value) (xs vs : List Value) (w : World) (hown : w.ownsRow base 26 6 v n xs) (h1 : ∀ u ∈ xs, u.oneCell' = true) (i : Nat) (hi : i ≤ n) (hn : n ≤ 90000) (vb : Nat) (vt : TypeId) (hvl : vs.length = 6) (hv : w.heap[vb]? = some (.cells vs.toArray vt (0, 0))) (h1v : ∀ u ∈ vs, u.oneCell' = true) (hne : v.ownBlock ≠ some vb) (hbase : base ≤ w.heap.size) :
    Calls Tryz.prog 77 #[v, .int .i64 i, .slice (some ⟨vb, 0, none⟩) 1 1] w (InsPostZa base n i v xs vs w) := by
  by_cases hin : i = n
  · subst hin
    have e1 : xs.take (i * 6) = xs := List.take_of_length_le (by rw [hown.1]; exact Nat.le_refl _)
    have e2 : xs.drop (i * 6) = [] := List.drop_of_length_le (by rw [hown.1]; exact Nat.le_refl _)
    refine (ins_endZa base i v xs vs w hown hn vb hvl (fun j u hj => ?_) h1v hbase).mono fun e w' ⟨v', he, h2, h3⟩ => ⟨v', he, by rw [e1, e2, List.append_nil]; exact h2, h3⟩
    rw [Nat.zero_add, cellRow w vb _ vs.toArray vt (0, 0) hv]
    simpa using hj
  · rcases hown.2 with ⟨rfl, h0⟩ | ⟨g, c, cur, rfl, hbg, hg, hnc, hcm, hcs, hxs⟩
    · omega
    · by_cases hroom : n + 1 ≤ c
      · exact ins_roomZa base n c g cur xs vs w hbg hg hcm hcs hxs hown.1 h1 i (by omega) hroom vb vt hvl hv h1v (fun e => hne (by rw [e]; rfl))
      · exact ins_growZa base n c g cur xs vs w hbase hg hxs hown.1 h1 i (by omega) hn hnc (by omega) vb vt hvl hv h1v
end Go.Proofs.YtnfhccnicojdcaaGreatDoor
