/-
  The fields of the example's record, as the program makes them: what is returned; nothing old turns. Condition: LaidU.
-/
import Derived.Test.YtbeoklihpkfofaaGreatDoorURight1
import Derived.Test.YtbeoklihpkfofaaGreatDoorSParse
namespace Go.Proofs.YtbeoklihpkfofaaGreatDoor
open Go.RowKit Go.Shelf
theorem heap_setU {W : World} {b i : Nat} {cs : Array Value} {t : TypeId} (u : Value) (h : W.heap[b]? = some (.cells cs t (0, 0))) : (W.setCell ⟨b, i, none⟩ u).heap[b]? = some (.cells (cs.setIfInBounds i u) t (0, 0)) := by
  obtain ⟨hlt, hk⟩ := Array.getElem?_eq_some_iff.1 h
  show (W.heap.modify b _)[b]? = _
  rw [Array.getElem?_eq_getElem (by rw [Array.size_modify]; exact hlt), Array.getElem_modify_self, hk]
  rfl
theorem lt_heapU {W : World} {k : Nat} {o : Obj} (h : W.heap[k]? = some o) : k < W.heap.size := (Array.getElem?_eq_some_iff.1 h).1
/-- The record's box, and behind it the box of its fields. -/
structure Fb (w W : World) (cs : Array Value) (st : List Fld) : Prop where
  hx : W.heap[w.heap.size]? = some (.cells cs 32 (0, 0))
  ho : ∃ v, W.heap[w.heap.size + 1]? = some (.cells #[v] 78 (0, 0)) ∧ OwnF W (w.heap.size + 2) v st
  b : Below w.heap.size w W
theorem OwnF.on {w w' : World} {base : Nat} {v : Value} {st : List Fld} (h : OwnF w base v st) (hb : Below w.heap.size w w') : OwnF w' base v st := World.ownsRow.kept h (grown_below hb) (by cases v.ownBlock <;> simp)
theorem Fb.on {w W W' : World} {cs : Array Value} {st : List Fld} (h : Fb w W cs st) (hb : Below W.heap.size W W') : Fb w W' cs st := by
  obtain ⟨v, h1, h2⟩ := h.ho
  exact ⟨(hb.block _ (lt_heapU h.hx)).trans h.hx, ⟨v, (hb.block _ (lt_heapU h1)).trans h1, h2.on hb⟩, h.b.trans (hb.mono h.b.size)⟩
theorem Fb.new (w : World) (cs : Array Value) : Fb w ((w.alloc (.cells cs 32)).alloc (.cells #[.slice none 0 0] 78)) cs [] := by
  have a1 := heap_alloc_new w (.cells cs 32)
  have b1 := (Below.refl w.heap.size w).alloc (Nat.le_refl _) (.cells cs 32)
  have a2 := heap_alloc_new (w.alloc (.cells cs 32)) (.cells #[.slice none 0 0] 78)
  have b2 := (Below.refl (w.alloc (.cells cs 32)).heap.size (w.alloc (.cells cs 32))).alloc (Nat.le_refl _) (.cells #[.slice none 0 0] 78)
  rw [World.size_alloc] at a2
  exact ⟨(b2.block _ (lt_heapU a1)).trans a1, ⟨_, a2, OwnF.nil _ _⟩, b1.trans (b2.mono b1.size)⟩
set_option maxRecDepth 100000 in
set_option maxHeartbeats 4000000 in
theorem add0 (b : Nat) (N : ByteArray) (W : World) : Calls Tryz.prog 94 #[.string N, .string ⟨#[]⟩, .pointer (some ⟨b, 0, none⟩)] W fun e w' => e = .returned (.tuple #[]) ∧ w' = W := by
  go_enter Tryz.func94, Tryz.ntmps94
  go_wp2
  go_end0
  exact ⟨rfl, rfl⟩
set_option maxRecDepth 100000 in
set_option maxHeartbeats 4000000 in
theorem add1 (N T : ByteArray) (hT : (T.toList == []) = false) {w W : World} {cs : Array Value} {st : List Fld} (hst : st.length ≤ 20) (h : Fb w W cs st) : Calls Tryz.prog 94 #[.string N, .string T, .pointer (some ⟨w.heap.size + 1, 0, none⟩)] W fun e w' => e = .returned (.tuple #[]) ∧ Fb w w' cs (st ++ [(N.data.toList, T.data.toList)]) := by
  obtain ⟨v, hv, ho⟩ := h.ho
  have HH := Lib.hid h
  obtain ⟨va, vc, rfl, -⟩ := ho.shape
  have HO := Lib.hid ho
  have HV := Lib.hid hv
  have HO3 : Hid (World.ownsRow W (w.heap.size + 2) 119 2 (.slice va st.length vc) st.length (fcells st)) := Lib.hid ho
  obtain ⟨n, hN⟩ : ∃ n, st.length = n := ⟨_, rfl⟩
  have HN := Lib.hid hN
  rw [hN] at hst
  have c0 := cell_heap (i := 0) hv rfl
  rw [hN] at c0
  have hsz := h.b.size
  have hlt := lt_heapU hv
  have HAPP : Hid (∀ v' w3, w3.ownsRow (w.heap.size + 2) 119 2 v' (n + 1) (fcells st ++ [.string N, .string T]) → OwnF w3 (w.heap.size + 2) v' (st ++ [(N.data.toList, T.data.toList)])) := Lib.hid (fun v' w3 h => OwnF.app (f := (N.data.toList, T.data.toList)) rfl rfl (by rw [hN]; exact h))
  rw [hN] at HO3
  generalize fcells st = T0 at *
  obtain ⟨i0, hi, hz0, hz1, hz2'⟩ := info_parts infoF
  clear hv ho hN h
  go_enter Tryz.func94, Tryz.ntmps94
  go_wp2_with (at_builtin; refine wpList_append_own _ rfl _ _ 78 rfl (w.heap.size + 2) 119 i0 _ 2 32 Tryz.underlying78 hi hz0 hz1 hz2' rfl (by decide) _ _ _ rfl (World.ownsRow.alloc HO3.out _) ⟨W.heap.size, 0, none⟩ 1 1 [.string N, .string T] rfl rfl (news2 _ _ _ rfl) (one2 _ _) (by unfold maxLen; omega) (by omega) (by simp; omega) ?_)
  intro v' w4 hown' hgrow _
  have hb4 : Below w.heap.size w w4 := (HH.out.b.alloc hsz _).grown hgrow (by simp; omega) (fun k hk => by have := (World.ownsRow.lt HO3.out k hk).1; omega)
  have hx4 : w4.heap[w.heap.size]? = some (.cells cs 32 (0, 0)) := by
    have e1 := ((Below.refl W.heap.size W).alloc (Nat.le_refl _) (.cells #[.string N, .string T] 119)).block _ (lt_heapU HH.out.hx)
    exact (hgrow.block _ (by simp; have := lt_heapU HH.out.hx; omega) (fun e => by have := (World.ownsRow.lt HO3.out _ e.symm).1; omega)).trans (e1.trans HH.out.hx)
  have hv4 : w4.heap[w.heap.size + 1]? = some (.cells #[.slice va n vc] 78 (0, 0)) := by
    have e1 := ((Below.refl W.heap.size W).alloc (Nat.le_refl _) (.cells #[.string N, .string T] 119)).block _ (lt_heapU HV.out)
    have := HV.out
    rw [HN.out] at this
    exact (hgrow.block _ (by simp; omega) (fun e => by have := (World.ownsRow.lt HO3.out _ e.symm).1; omega)).trans (e1.trans this)
  have HOA := Lib.hid (HAPP.out _ _ hown')
  obtain ⟨va', vc', hv', -⟩ := HOA.out.shape
  rw [List.length_append, HN.out] at hv'
  subst hv'
  have HB4 := Lib.hid hb4
  have HX4 := Lib.hid hx4
  have HV4 := Lib.hid hv4
  have q0 := cell_heap (i := 0) hv4 rfl
  have f0 := frozen_of_row _ _ 0 _ _ hv4
  clear hown' hgrow hb4 hx4 hv4 HO3 HAPP HO HV HH c0
  go_wp2
  go_end0
  refine ⟨rfl, (Below.heap_setCell _ _ _ _ (by simp)).trans HX4.out, ⟨_, by have := heap_setU (i := 0) (.slice va' (n + [(N.data.toList, T.data.toList)].length) vc') HV4.out; simpa using this, ?_⟩, HB4.out.setCell (p := ⟨w.heap.size + 1, 0, none⟩) (by simp) _⟩
  have h1 : w4.ownsRow (w.heap.size + 2) 119 2 (.slice va' (n + [(N.data.toList, T.data.toList)].length) vc') (st ++ [(N.data.toList, T.data.toList)]).length (fcells (st ++ [(N.data.toList, T.data.toList)])) := HOA.out
  refine ⟨h1.1, ?_⟩
  rcases h1.2 with hn | ⟨g, cap, cur, hv, hb', hg, rest⟩
  · exact .inl hn
  · exact .inr ⟨g, cap, cur, hv, hb', (Below.heap_setCell _ _ _ _ (by simp; omega)).trans hg, rest⟩
set_option maxRecDepth 100000 in
set_option maxHeartbeats 4000000 in
theorem all0 (a : Option Addr) (c : Nat) (w : World) (hL : LaidU w) : Calls Tryz.prog 76 #[.slice a 0 c] w fun e w' => e = .returned (.tuple #[.string ⟨#[]⟩, .int .i64 0]) ∧ Below w.heap.size w w' := by
  have h : HoldGs w (.slice a 0 c) ([] : List Gv) := ⟨⟨a, c, 0, 0, rfl, Nat.zero_le _, fun h => absurd h (by simp), fun j l hj => by simp at hj⟩, fun x hx => by simp at hx⟩
  have C := all_any (.slice a 0 c) [] (by simp) (fun x hx => by simp at hx) w h hL.q.v
  unfold TwoP at C
  rw [show allE (fsts ([] : List Gv)) = ([], 0) by decide +kernel] at C
  exact C
set_option maxRecDepth 100000 in
set_option maxHeartbeats 4000000 in
theorem list0 (a : Option Addr) (c : Nat) (w : World) (hL : LaidU w) : Calls Tryz.prog 77 #[.slice a 0 c] w fun e w' => e = .returned (.tuple #[.string ⟨#[]⟩, .int .i64 0]) ∧ Below w.heap.size w w' := by
  have h : HoldQ w (.slice a 0 c) [] := ⟨a, c, 0, 0, rfl, Nat.zero_le _, fun h => absurd h (by simp), fun j l hj => by simp at hj⟩
  have C := listQ_any (.slice a 0 c) [] (by simp) (fun x hx => by simp at hx) w h hL.q.v
  unfold TwoP at C
  rw [show listE [] = ([], 0) by decide +kernel] at C
  exact C
theorem join0 (a : Option Addr) (c : Nat) (s : ByteArray) (w : World) : Calls Tryz.prog 95 #[.slice a 0 c, .string s] w fun e w' => e = .returned (.string ⟨#[]⟩) ∧ w' = w :=
  (Tryz.strings_Join_none a c s w).mono fun _ _ h => ⟨h.1, h.2⟩
set_option maxRecDepth 100000 in
set_option maxHeartbeats 4000000 in
theorem confsText0 (a : Option Addr) (c : Nat) (w : World) : Calls Tryz.prog 96 #[.slice a 0 c] w fun e w' => e = .returned (.string ⟨#[]⟩) ∧ Below w.heap.size w w' := by
  have HD0 := Lib.hid (bld_new w.heap.size w (Nat.le_refl _))
  have B0 := Lib.hid ((Below.refl w.heap.size w).alloc (Nat.le_refl _) (.cells #[.pointer none, .slice none 0 0] tB))
  go_enter Tryz.func96, Tryz.ntmps96
  go_wp2
  generalize w.alloc (.cells #[.pointer none, .slice none 0 0] tB) = W2 at *
  generalize hb0 : w.heap.size = b0 at *
  have hsz0 : b0 ≤ W2.heap.size := by rw [← hb0]; exact B0.out.size
  go_loop [8] (fun i => i = .int .i64 0) (fun _ => 0)
  case atStart => rfl
  case round =>
    obtain rfl := hrel
    go_wp2_with (go_at_call 100; (with_reducible refine (bstr_any b0 b0 [] _ HD0.out hsz0).mono ?_); rintro e w1 ⟨rfl, hb⟩; have HB := Lib.hid (B0.out.trans hb); clear hb)
    go_ret
    exact ⟨rfl, by rw [hb0]; exact HB.out⟩
abbrev rowsU : List Fld := [([80, 97, 99, 107, 97, 103, 101], [97]), ([83, 116, 97, 116, 117, 115], [105, 110, 115, 116, 97, 108, 108, 101, 100]), ([86, 101, 114, 115, 105, 111, 110], [49])]
set_option maxRecDepth 100000 in
set_option maxHeartbeats 16000000 in
theorem fields1 (a3 a4 a5 a6 a7 a8 : Option Addr) (m3 m4 m5 m6 m7 m8 : Nat) (w : World) (hL : LaidU w) : Calls Tryz.prog 56 #[.agg #[.string ⟨#[97]⟩, .string ⟨#[49]⟩, .int .i64 7, .slice a3 0 m3, .slice a4 0 m4, .slice a5 0 m5, .slice a6 0 m6, .slice a7 0 m7, .slice a8 0 m8]] w fun e w' => ∃ a c, e = .returned (.slice a 3 c) ∧ HoldR 2 w' (.slice a 3 c) (rowsU.map rowF) ∧ Below w.heap.size w w' := by
  have HL := Lib.hid hL
  have C1 := fun W (hb : Below w.heap.size w W) => all0 a3 m3 W (HL.out.on hb)
  have C2 := fun W (hb : Below w.heap.size w W) => list0 a4 m4 W (HL.out.on hb)
  have C3 := fun W (hb : Below w.heap.size w W) => word_any 7 W (HL.out.on hb)
  have hw7 : bsT (wordU 7) = ⟨#[105, 110, 115, 116, 97, 108, 108, 101, 100]⟩ := rfl
  rw [hw7] at C3
  have J5 := fun s W => join0 a5 m5 s W
  have J7 := fun s W => join0 a7 m7 s W
  have J8 := fun s W => join0 a8 m8 s W
  have C6 := fun W => confsText0 a6 m6 W
  have F0 := Fb.new w #[.string ⟨#[97]⟩, .string ⟨#[49]⟩, .int .i64 7, .slice a3 0 m3, .slice a4 0 m4, .slice a5 0 m5, .slice a6 0 m6, .slice a7 0 m7, .slice a8 0 m8]
  have p3 := cell_heap (i := 3) F0.hx rfl
  have HF0 := Lib.hid F0
  clear F0 hw7 hL
  have t1 : ((⟨#[97]⟩ : ByteArray).toList == []) = false := by decide +kernel
  have t2 : ((⟨#[105, 110, 115, 116, 97, 108, 108, 101, 100]⟩ : ByteArray).toList == []) = false := by decide +kernel
  have t3 : ((⟨#[49]⟩ : ByteArray).toList == []) = false := by decide +kernel
  go_enter Tryz.func56, Tryz.ntmps56
  go_wp2_with (first
    | (go_at_call 76; (with_reducible refine (C1 _ HF0.out.b).mono ?_); rintro e w1 ⟨rfl, hb⟩; have HF1 := Lib.hid (HF0.out.on hb); have p4_HF1 := cell_heap (i := 4) HF1.out.hx rfl; clear hb)
    | (go_at_call 77; (with_reducible refine (C2 _ HF1.out.b).mono ?_); rintro e w2 ⟨rfl, hb⟩; have HF2 := Lib.hid (HF1.out.on hb); have p0_HF2 := cell_heap (i := 0) HF2.out.hx rfl; clear hb)
    | (go_at_call 94; (with_reducible refine (add1 ⟨#[80, 97, 99, 107, 97, 103, 101]⟩ ⟨#[97]⟩ t1 (by simp) HF2.out).mono ?_); rintro e w3 ⟨rfl, hf⟩; have HF3 := Lib.hid hf; have p2_HF3 := cell_heap (i := 2) HF3.out.hx rfl; clear hf)
    | (go_at_call 9; (with_reducible refine (C3 _ HF3.out.b).mono ?_); rintro e w4 ⟨rfl, hb⟩; have HF4 := Lib.hid (HF3.out.on hb); clear hb)
    | (go_at_call 94; (with_reducible refine (add1 ⟨#[83, 116, 97, 116, 117, 115]⟩ ⟨#[105, 110, 115, 116, 97, 108, 108, 101, 100]⟩ t2 (by simp) HF4.out).mono ?_); rintro e w5 ⟨rfl, hf⟩; have HF5 := Lib.hid hf; have p1_HF5 := cell_heap (i := 1) HF5.out.hx rfl; clear hf)
    | (go_at_call 94; (with_reducible refine (add1 ⟨#[86, 101, 114, 115, 105, 111, 110]⟩ ⟨#[49]⟩ t3 (by simp) HF5.out).mono ?_); rintro e w6 ⟨rfl, hf⟩; have HF6 := Lib.hid hf; have p5_HF6 := cell_heap (i := 5) HF6.out.hx rfl; have p6_HF6 := cell_heap (i := 6) HF6.out.hx rfl; clear hf)
    | (go_at_call 94; (with_reducible refine (add0 _ _ _).mono ?_); rintro e w7 ⟨rfl, rfl⟩)
    | (go_at_call 95; (first | (with_reducible refine (J5 _ _).mono ?_) | (with_reducible refine (J7 _ _).mono ?_) | (with_reducible refine (J8 _ _).mono ?_)); rintro e w8 ⟨rfl, rfl⟩)
    | (go_at_call 96; (with_reducible refine (C6 _).mono ?_); rintro e w9 ⟨rfl, hb⟩; have HF9 := Lib.hid (HF6.out.on hb); have p7_HF9 := cell_heap (i := 7) HF9.out.hx rfl; have p8_HF9 := cell_heap (i := 8) HF9.out.hx rfl; obtain ⟨fv, hfv, hfo⟩ := HF9.out.ho; have HFO := Lib.hid hfo; have pv := cell_heap (i := 0) hfv rfl; clear hb hfv hfo))
  go_ret
  obtain ⟨a, c, e, -⟩ := HFO.out.shape
  subst e
  exact ⟨a, c, rfl, HFO.out.holds, HF9.out.b⟩
end Go.Proofs.YtbeoklihpkfofaaGreatDoor
