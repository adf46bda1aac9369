/-
  Alternatives, as rows of six cells: in memory: held, owned; slices.Clone and slices.IndexFunc of them; nothing old turns. Alternatives, as rows of six cells: keyed.Find, Find, the reference's Find; nothing old turns. Alternatives, as rows of six cells: without a key: the reference's and the program's Drop; nothing old turns. Alternatives, as rows of six cells: with one more: the reference's Put; nothing old turns. Alternatives, as rows of six cells: keyed.Put's predicate; nothing old turns.
-/
import Derived.Test.YtnfhccnicojdcaaGreatDoorZHold
import Derived.Test.YtnfhccnicojdcaaGreatDoorYHold
import Derived.Test.YtnfhccnicojdcaaGreatDoorRowV
import Derived.Test.YtnfhccnicojdcaaGreatDoorZMath
import Derived.Test.YtnfhccnicojdcaaGreatDoorKCont
import Derived.Lib.SliceRun
import Derived.RangeFuncRecord
import Derived.Deep.RegionHeld3
import Derived.RangeFuncBox
import Derived.IntWalk
import Derived.BigRegion
import Derived.BigQuiet
namespace Go.Proofs.YtnfhccnicojdcaaGreatDoor
open Go.RowKit
abbrev SlcZa := Option Addr × Nat × Nat
abbrev OvZa := Bs × ByteArray × Bool × ByteArray × SlcZa × SlcZa
theorem boxV6Za (W : World) (v0 v1 v2 v3 v4 v5 : Value) (t : TypeId) : (W.alloc (.cells #[v0, v1, v2, v3, v4, v5] t)).cell? ⟨W.heap.size, 0, none⟩ = some v0 ∧ (W.alloc (.cells #[v0, v1, v2, v3, v4, v5] t)).cell? ⟨W.heap.size, 1, none⟩ = some v1 ∧ (W.alloc (.cells #[v0, v1, v2, v3, v4, v5] t)).cell? ⟨W.heap.size, 2, none⟩ = some v2 ∧ (W.alloc (.cells #[v0, v1, v2, v3, v4, v5] t)).cell? ⟨W.heap.size, 3, none⟩ = some v3 ∧ (W.alloc (.cells #[v0, v1, v2, v3, v4, v5] t)).cell? ⟨W.heap.size, 4, none⟩ = some v4 ∧ (W.alloc (.cells #[v0, v1, v2, v3, v4, v5] t)).cell? ⟨W.heap.size, 5, none⟩ = some v5 := by
  refine ⟨?_, ?_, ?_, ?_, ?_, ?_⟩ <;> (rw [World.cell?_alloc_new]; rfl)
theorem box6_onZa {w W : World} {v0 v1 v2 v3 v4 v5 : Value} {t : TypeId} (hb : Below (w.alloc (.cells #[v0, v1, v2, v3, v4, v5] t)).heap.size (w.alloc (.cells #[v0, v1, v2, v3, v4, v5] t)) W) :
    W.cell? ⟨w.heap.size, 0, none⟩ = some v0 ∧ W.cell? ⟨w.heap.size, 1, none⟩ = some v1 ∧ W.cell? ⟨w.heap.size, 2, none⟩ = some v2 ∧ W.cell? ⟨w.heap.size, 3, none⟩ = some v3 ∧ W.cell? ⟨w.heap.size, 4, none⟩ = some v4 ∧ W.cell? ⟨w.heap.size, 5, none⟩ = some v5 := by
  obtain ⟨x0, x1, x2, x3, x4, x5⟩ := boxV6Za w v0 v1 v2 v3 v4 v5 t
  have h := fun i => hb.cell (p := ⟨w.heap.size, i, none⟩) (by rw [World.size_alloc]; exact Nat.lt_succ_self _)
  exact ⟨(h 0).trans x0, (h 1).trans x1, (h 2).trans x2, (h 3).trans x3, (h 4).trans x4, (h 5).trans x5⟩
abbrev kyOZa : Value := .func (.func 41) #[] #[]
theorem pathOf_anyZa (X : ByteArray) (p1 : ByteArray) (p2 : Bool) (p3 : ByteArray) (p4a : Option Addr) (p4n p4c : Nat) (p5a : Option Addr) (p5n p5c : Nat) (w : World) : Calls Tryz.prog 41 #[.agg #[.string X, .string p1, .bool p2, .string p3, .slice p4a p4n p4c, .slice p5a p5n p5c]] w fun e w' => e = .returned (.string X) ∧ Below w.heap.size w w' := by
  obtain ⟨x0, x1, x2, x3, x4, x5⟩ := boxV6Za w (.string X) (.string p1) (.bool p2) (.string p3) (.slice p4a p4n p4c) (.slice p5a p5n p5c) 26
  have B0 := Lib.hid ((Below.refl w.heap.size w).alloc (Nat.le_refl _) (.cells #[.string X, .string p1, .bool p2, .string p3, .slice p4a p4n p4c, .slice p5a p5n p5c] 26))
  go_enter Tryz.func41, Tryz.ntmps41
  go_wp2
  go_ret
  exact ⟨rfl, B0.out⟩
abbrev cellsOZa (x : OvZa) : Rw := [.string (bsT x.1), .string x.2.1, .bool x.2.2.1, .string x.2.2.2.1, .slice x.2.2.2.2.1.1 x.2.2.2.2.1.2.1 x.2.2.2.2.1.2.2, .slice x.2.2.2.2.2.1 x.2.2.2.2.2.2.1 x.2.2.2.2.2.2.2]
abbrev aggOZa (x : OvZa) : Value := .agg #[.string (bsT x.1), .string x.2.1, .bool x.2.2.1, .string x.2.2.2.1, .slice x.2.2.2.2.1.1 x.2.2.2.2.1.2.1 x.2.2.2.2.1.2.2, .slice x.2.2.2.2.2.1 x.2.2.2.2.2.2.1 x.2.2.2.2.2.2.2]
abbrev HoldOZa (w : World) (v : Value) (l : List (OvZa)) : Prop := HoldV 6 w v (l.map cellsOZa)
theorem HoldOZa.parts {w : World} {v : Value} {l : List (OvZa)} (h : HoldOZa w v l) : ∃ (a : Option Addr) (c b o : Nat), v = .slice a l.length c ∧ l.length ≤ c ∧ (0 < l.length → a = some ⟨b, o, none⟩ ∧ b < w.heap.size) ∧
    ∀ (j : Nat) x, l[j]? = some x → w.cell? ⟨b, o + j * 6, none⟩ = some (.string (bsT x.1)) ∧ w.cell? ⟨b, o + j * 6 + 1, none⟩ = some (.string x.2.1) ∧ w.cell? ⟨b, o + j * 6 + 2, none⟩ = some (.bool x.2.2.1) ∧ w.cell? ⟨b, o + j * 6 + 3, none⟩ = some (.string x.2.2.2.1) ∧ w.cell? ⟨b, o + j * 6 + 4, none⟩ = some (.slice x.2.2.2.2.1.1 x.2.2.2.2.1.2.1 x.2.2.2.2.1.2.2) ∧ w.cell? ⟨b, o + j * 6 + 5, none⟩ = some (.slice x.2.2.2.2.2.1 x.2.2.2.2.2.2.1 x.2.2.2.2.2.2.2) := by
  obtain ⟨a, c, b, o, e, hc, ha, hcell⟩ := h
  rw [List.length_map] at e hc ha
  refine ⟨a, c, b, o, e, hc, ha, fun j x hx => ?_⟩
  have := hcell j (cellsOZa x) (by rw [List.getElem?_map, hx]; rfl)
  exact ⟨this 0 _ (by omega) rfl, this 1 _ (by omega) rfl, this 2 _ (by omega) rfl, this 3 _ (by omega) rfl, this 4 _ (by omega) rfl, this 5 _ (by omega) rfl⟩
abbrev OwnOZa (w : World) (base : Nat) (v : Value) (l : List (OvZa)) : Prop := OwnV 26 6 w base v (l.map cellsOZa)
theorem cellsO_lenZa (l : List (OvZa)) : ∀ r ∈ l.map cellsOZa, r.length = 6 := fun r hr => by obtain ⟨x, _, rfl⟩ := List.mem_map.1 hr; rfl
theorem OwnOZa.app {w' : World} {base : Nat} {v' : Value} {l : List (OvZa)} {x : OvZa} {c0 : ByteArray} (h0 : c0.data.toList = x.1) (h : w'.ownsRow base 26 6 v' (l.length + 1) ((l.map cellsOZa).flatten ++ [.string c0, .string x.2.1, .bool x.2.2.1, .string x.2.2.2.1, .slice x.2.2.2.2.1.1 x.2.2.2.2.1.2.1 x.2.2.2.2.1.2.2, .slice x.2.2.2.2.2.1 x.2.2.2.2.2.2.1 x.2.2.2.2.2.2.2])) : OwnOZa w' base v' (l ++ [x]) := by
  have := OwnV.app (T := 26) (k := 6) (rows := l.map cellsOZa) (r := cellsOZa x) (cellsO_lenZa l) rfl (by rw [List.length_map]; rw [strOf h0] at h; exact h)
  unfold OwnOZa; rw [List.map_append]; exact this
theorem OwnOZa.one (l : List (OvZa)) : ∀ u ∈ (l.map cellsOZa).flatten, u.oneCell' = true := fun u hu => by
  obtain ⟨r, hr, hu⟩ := List.mem_flatten.1 hu
  obtain ⟨x, _, rfl⟩ := List.mem_map.1 hr
  simp only [List.mem_cons, List.not_mem_nil, or_false] at hu
  rcases hu with rfl | rfl | rfl | rfl | rfl | rfl <;> rfl
theorem infoOZa : (Tryz.prog.info? 26).map (fun i => (i.zero, i.size, i.bytes)) = some (some (.agg #[.string ⟨#[]⟩, .string ⟨#[]⟩, .bool false, .string ⟨#[]⟩, .slice none 0 0, .slice none 0 0]), 6, 104) := by kernel_rfl
theorem HoldV.flatcZa {k : Nat} {w : World} {a : Option Addr} {n c : Nat} {rows : List Rw} (hk : 0 < k) (hr : ∀ r ∈ rows, r.length = k) (h : HoldV k w (.slice a n c) rows) (h0 : 0 < rows.length) : ∃ b o, a = some ⟨b, o, none⟩ ∧ b < w.heap.size ∧ ∀ (j : Nat) u, rows.flatten[j]? = some u → w.cell? ⟨b, o + j, none⟩ = some u := by
  obtain ⟨a', c', b, o, e, _, ha, hcell⟩ := h
  simp only [Value.slice.injEq] at e
  obtain ⟨rfl, rfl, rfl⟩ := e
  refine ⟨b, o, (ha h0).1, (ha h0).2, fun m u hu => ?_⟩
  obtain ⟨j, i, r, rfl, hi, hj, hr⟩ := flat_get k hk rows hr m u hu
  rw [← Nat.add_assoc]
  exact hcell j r hj i u hi hr
theorem own_emptyOZa (w : World) (base : Nat) (hb : base ≤ w.heap.size) : OwnOZa (w.alloc (.cells #[] 26)) base (.slice (some ⟨w.heap.size, 0, none⟩) 0 0) [] :=
  ⟨fun r hr => by simp at hr, rfl, .inr ⟨w.heap.size, 0, #[], rfl, hb, World.alloc_heap_new w _, Nat.le_refl _, Nat.zero_le _, rfl, rfl⟩⟩
set_option maxRecDepth 100000 in
set_option maxHeartbeats 4000000 in
theorem cloneO_anyZa (v : Value) (l : List (OvZa)) (hl : l.length ≤ 90000) (w : World) (h : HoldOZa w v l) : Calls Tryz.prog 74 #[v] w fun e w' => ∃ v', e = .returned v' ∧ OwnOZa w' w.heap.size v' l ∧ Below w.heap.size w w' := by
  have hh := h
  obtain ⟨a, c, b, o, rfl, hc, ha, hcell⟩ := h.parts
  obtain ⟨i0, hi, hz0, hz1, hz2'⟩ := info_parts infoOZa
  have HB1 := Lib.hid ((Below.refl w.heap.size w).alloc (Nat.le_refl _) (.cells #[] 26))
  have HE := Lib.hid (own_emptyOZa w w.heap.size (Nat.le_refl _))
  have HD := Lib.hid (And.intro (flat_len 6 (l.map cellsOZa) (cellsO_lenZa l)) (OwnOZa.one l))
  have HF : Hid (0 < l.length → ∃ b o, a = some ⟨b, o, none⟩ ∧ b < w.heap.size ∧ ∀ (j : Nat) u, (l.map cellsOZa).flatten[j]? = some u → w.cell? ⟨b, o + j, none⟩ = some u) := Lib.hid (fun h0 => HoldV.flatcZa (by omega) (cellsO_lenZa l) hh (by rw [List.length_map]; exact h0))
  obtain ⟨n, hN⟩ : ∃ n, l.length = n := ⟨_, rfl⟩
  rw [List.length_map] at HD
  rw [hN] at hc ha hl HF HD ⊢
  have HN := Lib.hid hN
  clear hcell hN h hh ha
  have hq : ∀ (w : World) (a : Option Addr) (n c n' c' : Nat), (binOp .eql 27 (.slice a n c) (.slice none n' c')).run Tryz.prog w = .ok (.bool a.isNone) w := fun w a n c n' c' => Lib.run_eql_slice_nil w _ _ a n c n' c' Tryz.underlying27
  cases a with
  | none =>
    have hn : n = 0 := by
      by_cases g : 0 < n
      · obtain ⟨_, _, e, _⟩ := HF.out g; cases e
      · omega
    have HL : Hid (l = []) := Lib.hid (List.eq_nil_of_length_eq_zero (by rw [HN.out, hn]))
    subst hn
    go_enter Tryz.func74, Tryz.ntmps74
    go_wp2
    go_ret
    exact ⟨_, rfl, by rw [HL.out]; exact OwnV.nil _ _ _ _, Below.refl _ _⟩
  | some A =>
    have HNW : Hid (∀ (j : Nat) u, (l.map cellsOZa).flatten[j]? = some u → (w.alloc (.cells #[] 26)).cell? (A.add j) = some u) := Lib.hid (fun j u hu => by
      have hj : j < n * 6 := by rw [← HD.out.1]; exact (List.getElem?_eq_some_iff.1 hu).1
      obtain ⟨b, o, e, hbw, hcl⟩ := HF.out (by omega)
      cases e
      rw [Addr.add_lit]
      exact (HB1.out.cell (p := ⟨b, o + j, none⟩) hbw).trans (hcl j u hu))
    go_enter Tryz.func74, Tryz.ntmps74
    go_wp2_with (at_builtin; refine wpList_append_own _ rfl _ _ 27 rfl w.heap.size 26 i0 _ 6 104 Tryz.underlying27 hi hz0 hz1 hz2' rfl (by decide) _ 0 [] rfl HE.out.2 A n _ (l.map cellsOZa).flatten rfl HD.out.1 HNW.out HD.out.2 (by unfold maxLen; omega) (by omega) (by simp) ?_)
    intro v' w3 hown' hgrow _
    have HO : Hid (OwnOZa w3 w.heap.size v' l) := Lib.hid ⟨cellsO_lenZa l, by rw [List.length_map, HN.out]; simpa using hown'⟩
    have HB : Hid (Below w.heap.size w w3) := Lib.hid (HB1.out.grown hgrow (by simp) (fun k hk => by simp [Value.ownBlock] at hk; omega))
    clear hown' hgrow
    go_wp2
    go_ret
    exact ⟨_, rfl, HO.out, HB.out⟩
def PredOZa (g : Nat) (lb : Array Value) (p : OvZa → Bool) (w : World) : Prop :=
  ∀ W x, Below w.heap.size w W → Calls Tryz.prog g (#[aggOZa x] ++ lb) W fun e w' => e = .returned (.bool (p x)) ∧ Below W.heap.size W w'
def idxOZa (l : List (OvZa)) (p : OvZa → Bool) : Int := match l.findIdx? p with
  | some k => (k : Int)
  | none => -1
theorem idxO_hitZa {l : List (OvZa)} {p : OvZa → Bool} {k : Nat} {x : OvZa} (hx : l[k]? = some x) (hp : p x = true) (hb : ∀ (j : Nat) y, j < k → l[j]? = some y → p y = false) : l.findIdx? p = some k := by
  rw [List.findIdx?_eq_some_iff_getElem]
  obtain ⟨hk, e⟩ := List.getElem?_eq_some_iff.1 hx
  exact ⟨hk, by rw [e]; exact hp, fun j hj => by rw [hb j _ hj (List.getElem?_eq_getElem (by omega))]; simp⟩
theorem idxO_missZa {l : List (OvZa)} {p : OvZa → Bool} (hb : ∀ (j : Nat) y, l[j]? = some y → p y = false) : l.findIdx? p = none := by
  rw [List.findIdx?_eq_none_iff]
  intro y hy
  obtain ⟨j, hj⟩ := List.mem_iff_getElem?.1 hy
  exact hb j y hj
set_option maxRecDepth 100000 in
set_option maxHeartbeats 4000000 in
theorem idxO_anyZa (g : Nat) (lb : Array Value) (eg : ∀ args w, (callFunc g args).run Tryz.prog w = .ok (.enter g args) w) (p : OvZa → Bool) (v : Value) (l : List (OvZa)) (hl : l.length ≤ 90000) (w : World) (h : HoldOZa w v l) (hp : PredOZa g lb p w) :
    Calls Tryz.prog 75 #[v, .func (.func g) #[] lb] w fun e w' => e = .returned (.int .i64 (idxOZa l p)) ∧ Below w.heap.size w w' := by
  obtain ⟨a, c, b, o, rfl, hc, ha, hcell⟩ := h.parts
  have HC := Lib.hid hcell
  obtain ⟨Z, HZ⟩ : ∃ Z, Hid (idxOZa l p = Z) := ⟨_, rfl⟩
  rw [HZ.out]
  have HP := Lib.hid hp
  obtain ⟨n, hN⟩ : ∃ n, l.length = n := ⟨_, rfl⟩
  rw [hN] at hc ha hl ⊢
  have HN := Lib.hid hN
  clear hcell hp hN h
  go_enter Tryz.func75, Tryz.ntmps75
  go_wp2
  go_loopw [8] (fun i wr => ∃ k : Nat, k ≤ n ∧ i = .int .i64 k ∧ Hid (∀ (j : Nat) y, j < k → l[j]? = some y → p y = false) ∧ Hid (Below w.heap.size w wr)) (fun i _ => n - (intOf i).toNat)
  case atStart => exact ⟨0, by omega, rfl, Lib.hid (fun j y hj => by omega), Lib.hid (Below.refl _ _)⟩
  case round =>
    obtain ⟨k, hk, rfl, H, HB⟩ := hrel
    by_cases hlt : k < n
    · obtain ⟨rfl, hbw⟩ := ha (by omega)
      obtain ⟨⟨a0, a1, a2, a3, ⟨a4a, a4n, a4c⟩, ⟨a5a, a5n, a5c⟩⟩, hx⟩ : ∃ x, l[k]? = some x := ⟨_, List.getElem?_eq_getElem (by rw [HN.out]; exact hlt)⟩
      obtain ⟨c0, c1, c2, c3, c4, c5⟩ := HC.out k (a0, a1, a2, a3, (a4a, a4n, a4c), (a5a, a5n, a5c)) hx
      dsimp only at c0 c1 c2 c3 c4 c5
      rw [← HB.out.cell (p := ⟨b, o + k * 6, none⟩) hbw] at c0
      rw [← HB.out.cell (p := ⟨b, o + k * 6 + 1, none⟩) hbw] at c1
      rw [← HB.out.cell (p := ⟨b, o + k * 6 + 2, none⟩) hbw] at c2
      rw [← HB.out.cell (p := ⟨b, o + k * 6 + 3, none⟩) hbw] at c3
      rw [← HB.out.cell (p := ⟨b, o + k * 6 + 4, none⟩) hbw] at c4
      rw [← HB.out.cell (p := ⟨b, o + k * 6 + 5, none⟩) hbw] at c5
      have hcall := HP.out wr (a0, a1, a2, a3, (a4a, a4n, a4c), (a5a, a5n, a5c)) HB.out
      unfold aggOZa at hcall
      dsimp only at hcall
      have HX := Lib.hid hx
      clear hx
      cases hq : p (a0, a1, a2, a3, (a4a, a4n, a4c), (a5a, a5n, a5c))
      · rw [hq] at hcall
        have HK : Hid (∀ (j : Nat) y, j < k + 1 → l[j]? = some y → p y = false) := Lib.hid (fun j y hj hy => by
          by_cases e : j = k
          · subst e
            rw [HX.out] at hy; cases hy
            exact hq
          · exact H.out j y (by omega) hy)
        clear hq H
        generalize bsT a0 = X0 at *
        go_wp2_with (go_at_fn g; refine hcall.mono ?_; rintro e w1 ⟨rfl, hb1⟩; have HB1 := Lib.hid (HB.out.trans (hb1.mono HB.out.size)); clear hb1)
        go_roundw
        case rel => exact ⟨k + 1, by omega, by go_num, HK, HB1⟩
        case measure => simp [intOf]; omega
      · rw [hq] at hcall
        have HF : Hid ((k : Int) = Z) := Lib.hid (by rw [← HZ.out, idxOZa, idxO_hitZa HX.out hq H.out])
        clear hq H
        generalize bsT a0 = X0 at *
        go_wp2_with (go_at_fn g; refine hcall.mono ?_; rintro e w1 ⟨rfl, hb1⟩; have HB1 := Lib.hid (HB.out.trans (hb1.mono HB.out.size)); clear hb1)
        go_ret
        exact ⟨reti HF.out, HB1.out⟩
    · obtain rfl : k = n := by omega
      have HF : Hid ((-1 : Int) = Z) := Lib.hid (by rw [← HZ.out, idxOZa, idxO_missZa (fun j y hy => H.out j y (by have := (List.getElem?_eq_some_iff.1 hy).1; rw [HN.out] at this; exact this) hy)])
      clear hlt H
      go_wp2
      go_ret
      exact ⟨reti HF.out, HB.out⟩
end Go.Proofs.YtnfhccnicojdcaaGreatDoor
namespace Go.Proofs.YtnfhccnicojdcaaGreatDoor
open Go.RowKit
def pathIsOZa (k : Bs) (x : OvZa) : Bool := decide (x.1 = k)
set_option maxRecDepth 100000 in
set_option maxHeartbeats 4000000 in
theorem findpO_anyZa (B1 B2 : Nat) (k : ByteArray) (x : OvZa) (W : World) (h1 : W.cell? ⟨B1, 0, none⟩ = some kyOZa) (h2 : W.cell? ⟨B2, 0, none⟩ = some (.string k)) :
    Calls Tryz.prog 78 #[aggOZa x, .pointer (some ⟨B1, 0, none⟩), .pointer (some ⟨B2, 0, none⟩)] W fun e w' => e = .returned (.bool (pathIsOZa k.data.toList x)) ∧ Below W.heap.size W w' := by
  obtain ⟨t, t1, t2, t3, ⟨t4a, t4n, t4c⟩, ⟨t5a, t5n, t5c⟩⟩ := x
  unfold kyOZa at h1
  have hq := eqT (bsT t) k
  rw [bytesOf] at hq
  unfold pathIsOZa aggOZa
  dsimp only
  have PA := fun w => pathOf_anyZa (bsT t) t1 t2 t3 t4a t4n t4c t5a t5n t5c w
  generalize decide (t = k.data.toList) = q at *
  generalize bsT t = X at *
  have l1 := World.block_lt_of_cell? W _ h1
  have l2 := World.block_lt_of_cell? W _ h2
  have B0 := (Below.refl W.heap.size W).alloc (Nat.le_refl _) (.cells #[.string X, .string t1, .bool t2, .string t3, .slice t4a t4n t4c, .slice t5a t5n t5c] 26)
  obtain ⟨x0, x1, x2, x3, x4, x5⟩ := boxV6Za W (.string X) (.string t1) (.bool t2) (.string t3) (.slice t4a t4n t4c) (.slice t5a t5n t5c) 26
  have k1 := (B0.cell l1).trans h1
  have k2 := (B0.cell l2).trans h2
  have hs := And.intro x0 (And.intro x1 (And.intro x2 (And.intro x3 (And.intro x4 (And.intro x5 (And.intro k1 (And.intro k2 B0)))))))
  clear x0 x1 x2 x3 x4 x5 k1 k2
  go_enter Tryz.func78, Tryz.ntmps78
  go_wp2
  generalize W.alloc (.cells #[.string X, .string t1, .bool t2, .string t3, .slice t4a t4n t4c, .slice t5a t5n t5c] 26) = W2 at *
  obtain ⟨x0, x1, x2, x3, x4, x5, k1, k2, hB⟩ := hs
  have hs := And.intro x0 (And.intro x1 (And.intro x2 (And.intro x3 (And.intro x4 (And.intro x5 (And.intro k1 (And.intro k2 hB)))))))
  clear B0 h1 h2
  have BE := fun (V : World) (h : V.cell? ⟨W.heap.size, 0, none⟩ = some (.string X) ∧ V.cell? ⟨W.heap.size, 1, none⟩ = some (.string t1) ∧ V.cell? ⟨W.heap.size, 2, none⟩ = some (.bool t2) ∧ V.cell? ⟨W.heap.size, 3, none⟩ = some (.string t3) ∧ V.cell? ⟨W.heap.size, 4, none⟩ = some (.slice t4a t4n t4c) ∧ V.cell? ⟨W.heap.size, 5, none⟩ = some (.slice t5a t5n t5c) ∧ V.cell? ⟨B1, 0, none⟩ = some (.func (.func 41) #[] #[]) ∧ V.cell? ⟨B2, 0, none⟩ = some (.string k) ∧ Below W.heap.size W V) => AtF.be (w := W) (l := [(⟨W.heap.size, 0, none⟩, .string X), (⟨W.heap.size, 1, none⟩, .string t1), (⟨W.heap.size, 2, none⟩, .bool t2), (⟨W.heap.size, 3, none⟩, .string t3), (⟨W.heap.size, 4, none⟩, .slice t4a t4n t4c), (⟨W.heap.size, 5, none⟩, .slice t5a t5n t5c), (⟨B1, 0, none⟩, .func (.func 41) #[] #[]), (⟨B2, 0, none⟩, .string k)]) h
  go_region_held3 (fun V => V.cell? ⟨W.heap.size, 0, none⟩ = some (.string X) ∧ V.cell? ⟨W.heap.size, 1, none⟩ = some (.string t1) ∧ V.cell? ⟨W.heap.size, 2, none⟩ = some (.bool t2) ∧ V.cell? ⟨W.heap.size, 3, none⟩ = some (.string t3) ∧ V.cell? ⟨W.heap.size, 4, none⟩ = some (.slice t4a t4n t4c) ∧ V.cell? ⟨W.heap.size, 5, none⟩ = some (.slice t5a t5n t5c) ∧ V.cell? ⟨B1, 0, none⟩ = some (.func (.func 41) #[] #[]) ∧ V.cell? ⟨B2, 0, none⟩ = some (.string k) ∧ Below W.heap.size W V)
    (first | assumption | exact hs | exact AtF.dr (w := W) (l := [(⟨W.heap.size, 0, none⟩, .string X), (⟨W.heap.size, 1, none⟩, .string t1), (⟨W.heap.size, 2, none⟩, .bool t2), (⟨W.heap.size, 3, none⟩, .string t3), (⟨W.heap.size, 4, none⟩, .slice t4a t4n t4c), (⟨W.heap.size, 5, none⟩, .slice t5a t5n t5c), (⟨B1, 0, none⟩, .func (.func 41) #[] #[]), (⟨B2, 0, none⟩, .string k)]) hs | exact AtF.dr (w := W) (l := [(⟨W.heap.size, 0, none⟩, .string X), (⟨W.heap.size, 1, none⟩, .string t1), (⟨W.heap.size, 2, none⟩, .bool t2), (⟨W.heap.size, 3, none⟩, .string t3), (⟨W.heap.size, 4, none⟩, .slice t4a t4n t4c), (⟨W.heap.size, 5, none⟩, .slice t5a t5n t5c), (⟨B1, 0, none⟩, .func (.func 41) #[] #[]), (⟨B2, 0, none⟩, .string k)]) (by assumption) | exact AtF.on (w := W) (l := [(⟨W.heap.size, 0, none⟩, .string X), (⟨W.heap.size, 1, none⟩, .string t1), (⟨W.heap.size, 2, none⟩, .bool t2), (⟨W.heap.size, 3, none⟩, .string t3), (⟨W.heap.size, 4, none⟩, .slice t4a t4n t4c), (⟨W.heap.size, 5, none⟩, .slice t5a t5n t5c), (⟨B1, 0, none⟩, .func (.func 41) #[] #[]), (⟨B2, 0, none⟩, .string k)]) (by assumption) (by assumption) | exact AtF.al (w := W) (l := [(⟨W.heap.size, 0, none⟩, .string X), (⟨W.heap.size, 1, none⟩, .string t1), (⟨W.heap.size, 2, none⟩, .bool t2), (⟨W.heap.size, 3, none⟩, .string t3), (⟨W.heap.size, 4, none⟩, .slice t4a t4n t4c), (⟨W.heap.size, 5, none⟩, .slice t5a t5n t5c), (⟨B1, 0, none⟩, .func (.func 41) #[] #[]), (⟨B2, 0, none⟩, .string k)]) (by assumption) _ | exact AtF.ald (w := W) (l := [(⟨W.heap.size, 0, none⟩, .string X), (⟨W.heap.size, 1, none⟩, .string t1), (⟨W.heap.size, 2, none⟩, .bool t2), (⟨W.heap.size, 3, none⟩, .string t3), (⟨W.heap.size, 4, none⟩, .slice t4a t4n t4c), (⟨W.heap.size, 5, none⟩, .slice t5a t5n t5c), (⟨B1, 0, none⟩, .func (.func 41) #[] #[]), (⟨B2, 0, none⟩, .string k)]) (by assumption) _ | exact AtF.al (w := W) (l := [(⟨W.heap.size, 0, none⟩, .string X), (⟨W.heap.size, 1, none⟩, .string t1), (⟨W.heap.size, 2, none⟩, .bool t2), (⟨W.heap.size, 3, none⟩, .string t3), (⟨W.heap.size, 4, none⟩, .slice t4a t4n t4c), (⟨W.heap.size, 5, none⟩, .slice t5a t5n t5c), (⟨B1, 0, none⟩, .func (.func 41) #[] #[]), (⟨B2, 0, none⟩, .string k)]) hs _ | exact AtF.ald (w := W) (l := [(⟨W.heap.size, 0, none⟩, .string X), (⟨W.heap.size, 1, none⟩, .string t1), (⟨W.heap.size, 2, none⟩, .bool t2), (⟨W.heap.size, 3, none⟩, .string t3), (⟨W.heap.size, 4, none⟩, .slice t4a t4n t4c), (⟨W.heap.size, 5, none⟩, .slice t5a t5n t5c), (⟨B1, 0, none⟩, .func (.func 41) #[] #[]), (⟨B2, 0, none⟩, .string k)]) hs _)
    ((go_at_call 41; (with_reducible refine (PA _).mono ?_); rintro e w3 ⟨rfl, hb⟩))
  all_goals
    rename_i hHeld
    have HW3 := Lib.hid (BE _ hHeld)
    clear hHeld
    go_wp2
    go_ret
    exact ⟨rfl, HW3.out⟩
set_option maxRecDepth 100000 in
set_option maxHeartbeats 4000000 in
theorem kfindO_anyZa (v : Value) (l : List OvZa) (hl : l.length ≤ 90000) (k : ByteArray) (w : World) (h : HoldOZa w v l) :
    Calls Tryz.prog 48 #[v, kyOZa, .string k] w fun e w' => e = .returned (.int .i64 (idxOZa l (pathIsOZa k.data.toList))) ∧ Below w.heap.size w w' := by
  have B2 := ((Below.refl w.heap.size w).alloc (Nat.le_refl _) (.cells #[kyOZa] 67)).alloc (by simp) (.cells #[.string k] 9)
  have q1 := (Boxed.new w 67 kyOZa).alloc (.cells #[.string k] 9)
  have q2 := Boxed.new (w.alloc (.cells #[kyOZa] 67)) 9 (.string k)
  rw [World.size_alloc] at q2
  have I := idxO_anyZa 78 #[.pointer (some ⟨w.heap.size, 0, none⟩), .pointer (some ⟨w.heap.size + 1, 0, none⟩)] (enters_of Tryz.func78 (by kernel_rfl) rfl) (pathIsOZa k.data.toList) v l hl _ (HoldV.on h B2)
    (fun W x hb => findpO_anyZa _ _ k x W ((hb.cell q1.lt).trans q1.cell) ((hb.cell q2.lt).trans q2.cell))
  have HB2 := Lib.hid B2
  obtain ⟨a, c, rfl⟩ : ∃ a c, v = .slice a l.length c := by obtain ⟨a, c, b, o, e, _⟩ := h.parts; exact ⟨a, c, e⟩
  clear B2 q1 q2 h
  unfold kyOZa at I ⊢
  generalize idxOZa l (pathIsOZa k.data.toList) = z at *
  generalize l.length = n at *
  go_enter Tryz.func48, Tryz.ntmps48
  go_wp2_with (go_at_call 75; (with_reducible refine I.mono ?_); rintro e w1 ⟨rfl, hb⟩; have HB := Lib.hid (HB2.out.trans (hb.mono HB2.out.size)); clear hb)
  go_ret
  exact ⟨rfl, HB.out⟩
theorem findO_anyZa (v : Value) (l : List OvZa) (hl : l.length ≤ 90000) (k : ByteArray) (w : World) (h : HoldOZa w v l) :
    Calls Tryz.prog 23 #[v, .string k] w fun e w' => e = .returned (.int .i64 (idxOZa l (pathIsOZa k.data.toList))) ∧ Below w.heap.size w w' := by
  have I := kfindO_anyZa v l hl k w h
  unfold kyOZa at I
  obtain ⟨a, c, rfl⟩ : ∃ a c, v = .slice a l.length c := by obtain ⟨a, c, b, o, e, _⟩ := h.parts; exact ⟨a, c, e⟩
  generalize idxOZa l (pathIsOZa k.data.toList) = z at *
  clear h hl
  generalize l.length = n at *
  go_enter Tryz.func23, Tryz.ntmps23
  go_wp2_with (go_at_call 48; (with_reducible refine I.mono ?_); rintro e w1 ⟨rfl, hb⟩; have HB := Lib.hid hb; clear hb)
  go_ret
  exact ⟨rfl, HB.out⟩
set_option maxRecDepth 100000 in
set_option maxHeartbeats 4000000 in
theorem findO_refZa (v : Value) (l : List OvZa) (hl : l.length ≤ 90000) (K : ByteArray) (w : World) (h : HoldOZa w v l) :
    Calls Tryz.prog 24 #[v, .string K] w fun e w' => e = .returned (.int .i64 (idxOZa l (pathIsOZa K.data.toList))) ∧ w = w' := by
  obtain ⟨a, c, b, o, rfl, hc, ha, hcell⟩ := h.parts
  have HC := Lib.hid hcell
  obtain ⟨p, hp⟩ : ∃ p, pathIsOZa K.data.toList = p := ⟨_, rfl⟩
  have HPD : Hid (∀ x : OvZa, p x = decide (x.1 = K.data.toList)) := Lib.hid (fun x => by rw [← hp]; rfl)
  obtain ⟨Z, HZ⟩ : ∃ Z, Hid (idxOZa l p = Z) := ⟨_, rfl⟩
  rw [hp, HZ.out]
  obtain ⟨n, hN⟩ : ∃ n, l.length = n := ⟨_, rfl⟩
  rw [hN] at hc ha hl ⊢
  have HN := Lib.hid hN
  clear hcell hN h hp
  go_enter Tryz.func24, Tryz.ntmps24
  go_wp2
  go_loop [5] (fun i => ∃ k : Nat, k ≤ n ∧ i = .int .i64 k ∧ Hid (∀ (j : Nat) y, j < k → l[j]? = some y → p y = false)) (fun i => n - (intOf i).toNat)
  case atStart => exact ⟨0, by omega, rfl, Lib.hid (fun j y hj => by omega)⟩
  case round =>
    obtain ⟨k, hk, rfl, H⟩ := hrel
    by_cases hlt : k < n
    · obtain ⟨rfl, hbw⟩ := ha (by omega)
      obtain ⟨⟨t, t1, t2, t3, ⟨t4a, t4n, t4c⟩, ⟨t5a, t5n, t5c⟩⟩, hx⟩ : ∃ x, l[k]? = some x := ⟨_, List.getElem?_eq_getElem (by rw [HN.out]; exact hlt)⟩
      obtain ⟨c0, -, -, -, -, -⟩ := HC.out k _ hx
      dsimp only at c0
      have HX := Lib.hid hx
      have q0 := eqT (bsT t) K
      rw [bytesOf] at q0
      clear hx
      cases hq : p (t, t1, t2, t3, (t4a, t4n, t4c), (t5a, t5n, t5c))
      · have HK : Hid (∀ (j : Nat) y, j < k + 1 → l[j]? = some y → p y = false) := Lib.hid (fun j y hj hy => by
          by_cases e : j = k
          · subst e; rw [HX.out] at hy; cases hy; exact hq
          · exact H.out j y (by omega) hy)
        rw [HPD.out] at hq
        dsimp only at hq
        rw [hq] at q0
        clear hq H
        generalize bsT t = X at *
        go_wp2
        go_round
        case rel => exact ⟨k + 1, by omega, by go_num, HK⟩
        case measure => simp [intOf]; omega
      · have HF : Hid ((k : Int) = Z) := Lib.hid (by rw [← HZ.out, idxOZa, idxO_hitZa HX.out hq H.out])
        rw [HPD.out] at hq
        dsimp only at hq
        rw [hq] at q0
        clear hq H
        generalize bsT t = X at *
        go_wp2
        go_ret
        exact ⟨reti HF.out, rfl⟩
    · obtain rfl : k = n := by omega
      have HF : Hid ((-1 : Int) = Z) := Lib.hid (by rw [← HZ.out, idxOZa, idxO_missZa (fun j y hy => H.out j y (by have := (List.getElem?_eq_some_iff.1 hy).1; rw [HN.out] at this; exact this) hy)])
      clear hlt H
      go_wp2
      go_ret
      exact ⟨reti HF.out, rfl⟩
end Go.Proofs.YtnfhccnicojdcaaGreatDoor
namespace Go.Proofs.YtnfhccnicojdcaaGreatDoor
open Go.RowKit
def offOZa (p : Bs) (x : OvZa) : Bool := !decide (x.1 = p)
def dropOZa (l : List OvZa) (p : Bs) : List OvZa := l.filter (offOZa p)
theorem dropO_keepZa {l : List OvZa} {k : Nat} {x : OvZa} {p : Bs} (hx : l[k]? = some x) (h : ¬ x.1 = p) : dropOZa (l.take (k + 1)) p = dropOZa (l.take k) p ++ [x] := by
  unfold dropOZa
  rw [List.take_add_one, hx, List.filter_append]
  simp [offOZa, h]
theorem dropO_skipZa {l : List OvZa} {k : Nat} {x : OvZa} {p : Bs} (hx : l[k]? = some x) (h : x.1 = p) : dropOZa (l.take (k + 1)) p = dropOZa (l.take k) p := by
  unfold dropOZa
  rw [List.take_add_one, hx, List.filter_append]
  simp [offOZa, h]
theorem dropO_lenZa (l : List OvZa) (p : Bs) : (dropOZa l p).length ≤ l.length := List.length_filter_le _ _
def DropPostOZa (l : List OvZa) (p : Bs) (w : World) (e : Ending) (w' : World) : Prop := ∃ v, e = .returned v ∧ OwnOZa w' w.heap.size v (dropOZa l p) ∧ Below w.heap.size w w'
set_option maxRecDepth 100000 in
set_option maxHeartbeats 4000000 in
theorem dropO_refZa (v : Value) (l : List OvZa) (hl : l.length ≤ 90000) (p : ByteArray) (w : World) (h : HoldOZa w v l) : Calls Tryz.prog 22 #[v, .string p] w (DropPostOZa l p.data.toList w) := by
  obtain ⟨a, c, b, o, rfl, hc, ha, hcell⟩ := h.parts
  have HC := Lib.hid hcell
  obtain ⟨i0, hi, hz0, hz1, hz2'⟩ := info_parts infoOZa
  obtain ⟨n, hN⟩ : ∃ n, l.length = n := ⟨_, rfl⟩
  rw [hN] at hc ha hl ⊢
  have HN := Lib.hid hN
  clear hcell hN h
  go_enter Tryz.func22, Tryz.ntmps22
  go_wp2
  go_loopw [5, 6] (fun u i wr => ∃ k : Nat, k ≤ n ∧ i = .int .i64 k ∧ Hid (OwnOZa wr w.heap.size u (dropOZa (l.take k) p.data.toList)) ∧ Hid (Below w.heap.size w wr)) (fun _ i _ => n - (intOf i).toNat)
  case atStart => exact ⟨0, by omega, rfl, Lib.hid (OwnV.nil _ _ _ _), Lib.hid (Below.refl _ _)⟩
  case round =>
    obtain ⟨k, hk, rfl, HO, HB⟩ := hrel
    have hsz := HB.out.size
    by_cases hlt : k < n
    · obtain ⟨rfl, hbw⟩ := ha (by omega)
      obtain ⟨⟨q0, q1, q2, q3, ⟨q4a, q4n, q4c⟩, ⟨q5a, q5n, q5c⟩⟩, hx⟩ : ∃ x, l[k]? = some x := ⟨_, List.getElem?_eq_getElem (by rw [HN.out]; exact hlt)⟩
      obtain ⟨c0, c1, c2, c3, c4, c5⟩ := HC.out k _ hx
      dsimp only at c0 c1 c2 c3 c4 c5
      rw [← HB.out.cell (p := ⟨b, o + k * 6, none⟩) hbw] at c0
      rw [← HB.out.cell (p := ⟨b, o + k * 6 + 1, none⟩) hbw] at c1
      rw [← HB.out.cell (p := ⟨b, o + k * 6 + 2, none⟩) hbw] at c2
      rw [← HB.out.cell (p := ⟨b, o + k * 6 + 3, none⟩) hbw] at c3
      rw [← HB.out.cell (p := ⟨b, o + k * 6 + 4, none⟩) hbw] at c4
      rw [← HB.out.cell (p := ⟨b, o + k * 6 + 5, none⟩) hbw] at c5
      have hlen : (dropOZa (l.take k) p.data.toList).length ≤ 90000 := Nat.le_trans (dropO_lenZa _ _) (by rw [List.length_take]; omega)
      have hq := eqT (bsT q0) p
      rw [bytesOf] at hq
      by_cases he : q0 = p.data.toList
      · rw [decide_eq_true he] at hq
        have HK : Hid (dropOZa (l.take (k + 1)) p.data.toList = dropOZa (l.take k) p.data.toList) := Lib.hid (dropO_skipZa hx he)
        generalize bsT q0 = X at *
        clear he hx
        go_wp2
        go_roundw
        case rel => exact ⟨k + 1, by omega, by go_num, Lib.hid (by rw [HK.out]; exact HO.out), HB⟩
        case measure => simp [intOf]; omega
      · rw [decide_eq_false he] at hq
        have HK : Hid (dropOZa (l.take (k + 1)) p.data.toList = dropOZa (l.take k) p.data.toList ++ [(q0, q1, q2, q3, (q4a, q4n, q4c), (q5a, q5n, q5c))]) := Lib.hid (dropO_keepZa hx he)
        have HX : Hid ((bsT q0).data.toList = q0) := Lib.hid (bytesOf _)
        generalize bsT q0 = X at *
        clear he hx
        go_wp2_with (first
          | (at_builtin; refine wpList_append_own _ rfl _ _ 27 rfl w.heap.size 26 i0 _ 6 104 Tryz.underlying27 hi hz0 hz1 hz2' rfl (by decide) _ _ _ rfl (World.ownsRow.alloc HO.out.2 _) ⟨wr.heap.size, 0, none⟩ 1 1 [.string X, .string q1, .bool q2, .string q3, .slice q4a q4n q4c, .slice q5a q5n q5c] rfl rfl (by intro j u hj; match j, hj with | 0, hj => simp at hj; subst hj; simp [Addr.add] | 1, hj => simp at hj; subst hj; simp [Addr.add] | 2, hj => simp at hj; subst hj; simp [Addr.add] | 3, hj => simp at hj; subst hj; simp [Addr.add] | 4, hj => simp at hj; subst hj; simp [Addr.add] | 5, hj => simp at hj; subst hj; simp [Addr.add]) (by intro u hu; simp at hu; rcases hu with rfl | rfl | rfl | rfl | rfl | rfl <;> rfl) (by rw [List.length_map]; unfold maxLen; omega) (by rw [List.length_map]; omega) (by simp; omega) ?_))
        intro v' w3 hown' hgrow _
        have HO3 : Hid (OwnOZa w3 w.heap.size v' (dropOZa (l.take (k + 1)) p.data.toList)) := Lib.hid (by rw [HK.out]; exact OwnOZa.app (x := (q0, q1, q2, q3, (q4a, q4n, q4c), (q5a, q5n, q5c))) HX.out (by first | exact hown' | (rw [List.length_map] at hown'; exact hown')))
        have HB3 : Hid (Below w.heap.size w w3) := Lib.hid (OwnV.below HB.out HO.out hgrow (Nat.le_refl _) (by omega))
        clear hown' hgrow
        go_wp2
        go_roundw
        case rel => exact ⟨k + 1, by omega, by go_num, HO3, HB3⟩
        case measure => simp [intOf]; omega
    · obtain rfl : k = n := by omega
      have HF : Hid (l.take k = l) := Lib.hid (by rw [← HN.out, List.take_length])
      rw [HF.out] at HO
      clear hlt
      go_wp2
      go_ret
      exact ⟨_, rfl, HO.out, HB.out⟩
set_option maxRecDepth 100000 in
set_option maxHeartbeats 4000000 in
theorem kdropO_anyZa (v : Value) (l : List OvZa) (hl : l.length ≤ 90000) (p : ByteArray) (w : World) (h : HoldOZa w v l) : Calls Tryz.prog 47 #[v, kyOZa, .string p] w (DropPostOZa l p.data.toList w) := by
  obtain ⟨a, c, b, o, rfl, hc, ha, hcell⟩ := h.parts
  have HC := Lib.hid hcell
  obtain ⟨i0, hi, hz0, hz1, hz2'⟩ := info_parts infoOZa
  have PA := fun X p1 p2 p3 p4a p4n p4c p5a p5n p5c w => pathOf_anyZa X p1 p2 p3 p4a p4n p4c p5a p5n p5c w
  obtain ⟨n, hN⟩ : ∃ n, l.length = n := ⟨_, rfl⟩
  rw [hN] at hc ha hl ⊢
  have HN := Lib.hid hN
  clear hcell hN h
  unfold kyOZa
  go_enter Tryz.func47, Tryz.ntmps47
  go_wp2
  go_loopw [7, 12] (fun u i wr => ∃ k : Nat, k ≤ n ∧ i = .int .i64 k ∧ Hid (OwnOZa wr w.heap.size u (dropOZa (l.take k) p.data.toList)) ∧ Hid (Below w.heap.size w wr)) (fun _ i _ => n - (intOf i).toNat)
  case atStart => exact ⟨0, by omega, rfl, Lib.hid (OwnV.nil _ _ _ _), Lib.hid (Below.refl _ _)⟩
  case round =>
    obtain ⟨k, hk, rfl, HO, HB⟩ := hrel
    have hsz := HB.out.size
    by_cases hlt : k < n
    · obtain ⟨rfl, hbw⟩ := ha (by omega)
      obtain ⟨⟨q0, q1, q2, q3, ⟨q4a, q4n, q4c⟩, ⟨q5a, q5n, q5c⟩⟩, hx⟩ : ∃ x, l[k]? = some x := ⟨_, List.getElem?_eq_getElem (by rw [HN.out]; exact hlt)⟩
      obtain ⟨c0, c1, c2, c3, c4, c5⟩ := HC.out k _ hx
      dsimp only at c0 c1 c2 c3 c4 c5
      rw [← HB.out.cell (p := ⟨b, o + k * 6, none⟩) hbw] at c0
      rw [← HB.out.cell (p := ⟨b, o + k * 6 + 1, none⟩) hbw] at c1
      rw [← HB.out.cell (p := ⟨b, o + k * 6 + 2, none⟩) hbw] at c2
      rw [← HB.out.cell (p := ⟨b, o + k * 6 + 3, none⟩) hbw] at c3
      rw [← HB.out.cell (p := ⟨b, o + k * 6 + 4, none⟩) hbw] at c4
      rw [← HB.out.cell (p := ⟨b, o + k * 6 + 5, none⟩) hbw] at c5
      have hlen : (dropOZa (l.take k) p.data.toList).length ≤ 90000 := Nat.le_trans (dropO_lenZa _ _) (by rw [List.length_take]; omega)
      have hq := eqT (bsT q0) p
      rw [bytesOf] at hq
      have HK := Lib.hid (And.intro (fun h => dropO_skipZa (p := p.data.toList) hx h) (fun h => dropO_keepZa (p := p.data.toList) hx h))
      have HX : Hid ((bsT q0).data.toList = q0) := Lib.hid (bytesOf _)
      generalize bsT q0 = X at *
      have HXB := Lib.hid (fun W (hb : Below (wr.alloc (.cells #[.string X, .string q1, .bool q2, .string q3, .slice q4a q4n q4c, .slice q5a q5n q5c] 26)).heap.size (wr.alloc (.cells #[.string X, .string q1, .bool q2, .string q3, .slice q4a q4n q4c, .slice q5a q5n q5c] 26)) W) => box6_onZa hb)
      have HB1 := Lib.hid ((Below.refl wr.heap.size wr).alloc (Nat.le_refl _) (.cells #[.string X, .string q1, .bool q2, .string q3, .slice q4a q4n q4c, .slice q5a q5n q5c] 26))
      clear hx
      by_cases he : q0 = p.data.toList
      · rw [decide_eq_true he] at hq
        have HKK := Lib.hid (HK.out.1 he)
        clear he HK
        go_wp2_with (go_at_call 41; refine (PA _ _ _ _ _ _ _ _ _ _ _).mono ?_; rintro e w3 ⟨rfl, hb⟩; obtain ⟨d0, d1, d2, d3, d4, d5⟩ := HXB.out _ hb; have HG := Lib.hid (HB1.out.trans (hb.mono HB1.out.size)); clear hb)
        go_roundw
        case rel => exact ⟨k + 1, by omega, by go_num, Lib.hid (by rw [HKK.out]; exact OwnV.on HO.out HG.out), Lib.hid (HB.out.trans (HG.out.mono hsz))⟩
        case measure => simp [intOf]; omega
      · rw [decide_eq_false he] at hq
        have HKK := Lib.hid (HK.out.2 he)
        clear he HK
        go_wp2_with (first
          | (go_at_call 41; refine (PA _ _ _ _ _ _ _ _ _ _ _).mono ?_; rintro e w3 ⟨rfl, hb⟩; obtain ⟨d0, d1, d2, d3, d4, d5⟩ := HXB.out _ hb; have HG := Lib.hid (HB1.out.trans (hb.mono HB1.out.size)); have HO2 : Hid (OwnOZa w3 w.heap.size _ (dropOZa (l.take k) p.data.toList)) := Lib.hid (OwnV.on HO.out HG.out); have HB2 := Lib.hid (HB.out.trans (HG.out.mono hsz)); have hsz3 := HB2.out.size; clear hb)
          | (at_builtin; refine wpList_append_own _ rfl _ _ 27 rfl w.heap.size 26 i0 _ 6 104 Tryz.underlying27 hi hz0 hz1 hz2' rfl (by decide) _ _ _ rfl (World.ownsRow.alloc HO2.out.2 _) ⟨w3.heap.size, 0, none⟩ 1 1 [.string X, .string q1, .bool q2, .string q3, .slice q4a q4n q4c, .slice q5a q5n q5c] rfl rfl (by intro j u hj; match j, hj with | 0, hj => simp at hj; subst hj; simp [Addr.add] | 1, hj => simp at hj; subst hj; simp [Addr.add] | 2, hj => simp at hj; subst hj; simp [Addr.add] | 3, hj => simp at hj; subst hj; simp [Addr.add] | 4, hj => simp at hj; subst hj; simp [Addr.add] | 5, hj => simp at hj; subst hj; simp [Addr.add]) (by intro u hu; simp at hu; rcases hu with rfl | rfl | rfl | rfl | rfl | rfl <;> rfl) (by rw [List.length_map]; unfold maxLen; omega) (by rw [List.length_map]; omega) (by simp; omega) ?_))
        intro v' w4 hown' hgrow _
        have HO3 : Hid (OwnOZa w4 w.heap.size v' (dropOZa (l.take (k + 1)) p.data.toList)) := Lib.hid (by rw [HKK.out]; exact OwnOZa.app (x := (q0, q1, q2, q3, (q4a, q4n, q4c), (q5a, q5n, q5c))) HX.out (by first | exact hown' | (rw [List.length_map] at hown'; exact hown')))
        have HB3 : Hid (Below w.heap.size w w4) := Lib.hid (OwnV.below HB2.out HO2.out hgrow (Nat.le_refl _) (by omega))
        clear hown' hgrow
        go_wp2
        go_roundw
        case rel => exact ⟨k + 1, by omega, by go_num, HO3, HB3⟩
        case measure => simp [intOf]; omega
    · obtain rfl : k = n := by omega
      have HF : Hid (l.take k = l) := Lib.hid (by rw [← HN.out, List.take_length])
      rw [HF.out] at HO
      clear hlt
      go_wp2
      go_ret
      exact ⟨_, rfl, HO.out, HB.out⟩
set_option maxRecDepth 100000 in
set_option maxHeartbeats 4000000 in
theorem dropO_anyZa (v : Value) (l : List OvZa) (hl : l.length ≤ 90000) (p : ByteArray) (w : World) (h : HoldOZa w v l) : Calls Tryz.prog 19 #[v, .string p] w (DropPostOZa l p.data.toList w) := by
  have I := kdropO_anyZa v l hl p w h
  have HP : Hid (∀ v w', OwnOZa w' w.heap.size v (dropOZa l p.data.toList) → Below w.heap.size w w' → DropPostOZa l p.data.toList w (.returned v) w') := Lib.hid (fun v w' h1 h2 => ⟨v, rfl, h1, h2⟩)
  obtain ⟨a, c, b, o, rfl, -, -, -⟩ := h.parts
  unfold kyOZa at I
  clear h hl
  generalize l.length = n at *
  go_enter Tryz.func19, Tryz.ntmps19
  go_wp2_with (go_at_call 47; refine I.mono ?_; rintro e w1 ⟨v1, rfl, h1, hb⟩; have HO := Lib.hid h1; have HB := Lib.hid hb; clear hb h1)
  go_ret
  exact HP.out _ _ HO.out HB.out
end Go.Proofs.YtnfhccnicojdcaaGreatDoor
namespace Go.Proofs.YtnfhccnicojdcaaGreatDoor
open Go.RowKit
def overOZa (p : Bs) (y : OvZa) : Bool := decide (p < y.1)
def cutPOZa (l : List OvZa) (p : Bs) : Nat := match l.findIdx? (overOZa p) with
  | some k => k
  | none => l.length
def putOZa (l : List OvZa) (x : OvZa) : List OvZa := match l.findIdx? (pathIsOZa x.1) with
  | some k => l.set k x
  | none => l.take (cutPOZa l x.1) ++ x :: l.drop (cutPOZa l x.1)
def PutPostOZa (l : List OvZa) (x : OvZa) (w : World) (e : Ending) (w' : World) : Prop := ∃ v, e = .returned v ∧ HoldOZa w' v (putOZa l x) ∧ Below w.heap.size w w'
theorem setO_atZa {l : List OvZa} {k : Nat} {x : OvZa} (h : k < l.length) : (l.set k x).take (k + 1) = (l.set k x).take k ++ [x] := by
  rw [List.take_add_one, List.getElem?_set_self h]; rfl
theorem setO_byZa {l : List OvZa} {k k0 : Nat} {x y : OvZa} (hy : l[k]? = some y) (h : k ≠ k0) : (l.set k0 x).take (k + 1) = (l.set k0 x).take k ++ [y] := by
  rw [List.take_add_one, List.getElem?_set_ne (Ne.symm h), hy]; rfl
set_option maxRecDepth 100000 in
set_option maxHeartbeats 8000000 in
theorem putO_ref_oldZa (v : Value) (l : List OvZa) (hl : l.length ≤ 90000) (x : OvZa) (w : World) (h : HoldOZa w v l) (k0 : Nat) (hk0 : l.findIdx? (pathIsOZa x.1) = some k0) : Calls Tryz.prog 21 #[v, aggOZa x] w (PutPostOZa l x w) := by
  have B1 := (Below.refl w.heap.size w).alloc (Nat.le_refl _) (.cells #[.string (bsT x.1), .string x.2.1, .bool x.2.2.1, .string x.2.2.2.1, .slice x.2.2.2.2.1.1 x.2.2.2.2.1.2.1 x.2.2.2.2.1.2.2, .slice x.2.2.2.2.2.1 x.2.2.2.2.2.2.1 x.2.2.2.2.2.2.2] 26)
  have FA := findO_refZa v l hl (bsT x.1) _ (HoldV.on h B1)
  have hi0 : idxOZa l (pathIsOZa x.1) = (k0 : Int) := by unfold idxOZa; rw [hk0]
  have hP : putOZa l x = l.set k0 x := by unfold putOZa; rw [hk0]
  have hkl : k0 < l.length := (List.findIdx?_eq_some_iff_getElem.1 hk0).1
  rw [bytesOf, hi0] at FA
  have HP : Hid (∀ v w', HoldOZa w' v (l.set k0 x) → Below w.heap.size w w' → PutPostOZa l x w (.returned v) w') := Lib.hid (fun v w' h1 h2 => ⟨v, rfl, by rw [hP]; exact h1, h2⟩)
  have HX : Hid ((bsT x.1).data.toList = x.1) := Lib.hid (bytesOf _)
  have HXB := Lib.hid (boxV6Za w (.string (bsT x.1)) (.string x.2.1) (.bool x.2.2.1) (.string x.2.2.2.1) (.slice x.2.2.2.2.1.1 x.2.2.2.2.1.2.1 x.2.2.2.2.1.2.2) (.slice x.2.2.2.2.2.1 x.2.2.2.2.2.2.1 x.2.2.2.2.2.2.2) 26)
  obtain ⟨a, c, b, o, rfl, hc, ha, hcell⟩ := h.parts
  have HC := Lib.hid hcell
  obtain ⟨i0, hi, hz0, hz1, hz2'⟩ := info_parts infoOZa
  obtain ⟨n, hN⟩ : ∃ n, l.length = n := ⟨_, rfl⟩
  have hlen : ∀ k, ((l.set k0 x).take k).length ≤ 90000 := fun k => by rw [List.length_take, List.length_set]; omega
  rw [hN] at hc ha hl FA hkl ⊢
  have HN := Lib.hid hN
  have HSA := Lib.hid (setO_atZa (l := l) (k := k0) (x := x) (by rw [hN]; exact hkl))
  have HSB := Lib.hid (fun (k : Nat) y (hy : l[k]? = some y) (e : k ≠ k0) => setO_byZa (x := x) hy e)
  have HB1 := Lib.hid B1
  unfold aggOZa
  generalize bsT x.1 = X at *
  clear hcell hN h B1 hi0 hP hk0
  go_enter Tryz.func21, Tryz.ntmps21
  go_wp2_with (go_at_call 24; refine FA.mono ?_; rintro e w1 ⟨rfl, rfl⟩)
  clear FA
  go_loopw [5, 7, 8] (fun u t i wr => ∃ k : Nat, k ≤ n ∧ i = .int .i64 k ∧ t = .bool true ∧ Hid (OwnOZa wr (w.heap.size + 1) u ((l.set k0 x).take k)) ∧ Hid (Below (w.heap.size + 1) (w.alloc (.cells #[.string X, .string x.2.1, .bool x.2.2.1, .string x.2.2.2.1, .slice x.2.2.2.2.1.1 x.2.2.2.2.1.2.1 x.2.2.2.2.1.2.2, .slice x.2.2.2.2.2.1 x.2.2.2.2.2.2.1 x.2.2.2.2.2.2.2] 26)) wr)) (fun _ _ i _ => n - (intOf i).toNat)
  case atStart => exact ⟨0, by omega, rfl, rfl, Lib.hid (OwnV.nil _ _ _ _), Lib.hid (Below.refl _ _)⟩
  case round =>
    obtain ⟨k, hk, rfl, rfl, HO, HB⟩ := hrel
    have hsz := HB.out.size
    rw [World.size_alloc] at hsz
    have HBW : Hid (Below w.heap.size w wr) := Lib.hid (HB1.out.trans (HB.out.mono (by omega)))
    by_cases hlt : k < n
    · obtain ⟨rfl, hbw⟩ := ha (by omega)
      obtain ⟨⟨y0, y1, y2, y3, ⟨y4a, y4n, y4c⟩, ⟨y5a, y5n, y5c⟩⟩, hy⟩ : ∃ y, l[k]? = some y := ⟨_, List.getElem?_eq_getElem (by rw [HN.out]; exact hlt)⟩
      obtain ⟨c0, c1, c2, c3, c4, c5⟩ := HC.out k _ hy
      dsimp only at c0 c1 c2 c3 c4 c5
      rw [← HBW.out.cell (p := ⟨b, o + k * 6, none⟩) hbw] at c0
      rw [← HBW.out.cell (p := ⟨b, o + k * 6 + 1, none⟩) hbw] at c1
      rw [← HBW.out.cell (p := ⟨b, o + k * 6 + 2, none⟩) hbw] at c2
      rw [← HBW.out.cell (p := ⟨b, o + k * 6 + 3, none⟩) hbw] at c3
      rw [← HBW.out.cell (p := ⟨b, o + k * 6 + 4, none⟩) hbw] at c4
      rw [← HBW.out.cell (p := ⟨b, o + k * 6 + 5, none⟩) hbw] at c5
      have q0 := (HB.out.cell (p := ⟨w.heap.size, 0, none⟩) (by simp)).trans HXB.out.1
      have q1 := (HB.out.cell (p := ⟨w.heap.size, 1, none⟩) (by simp)).trans HXB.out.2.1
      have q2 := (HB.out.cell (p := ⟨w.heap.size, 2, none⟩) (by simp)).trans HXB.out.2.2.1
      have q3 := (HB.out.cell (p := ⟨w.heap.size, 3, none⟩) (by simp)).trans HXB.out.2.2.2.1
      have q4 := (HB.out.cell (p := ⟨w.heap.size, 4, none⟩) (by simp)).trans HXB.out.2.2.2.2.1
      have q5 := (HB.out.cell (p := ⟨w.heap.size, 5, none⟩) (by simp)).trans HXB.out.2.2.2.2.2
      have hln := hlen k
      have HSK := Lib.hid (HSB.out k _ hy)
      have HYY : Hid ((bsT y0).data.toList = y0) := Lib.hid (bytesOf _)
      generalize bsT y0 = X' at *
      clear hy
      have t0 : (0 : Int) ≤ (k : Int) := by omega
      have t1 : (k : Int) < (n : Int) := by omega
      go_wp2
      go_quiet (fail)
      have HO1 : Hid (OwnOZa (wr.drewN nq) (w.heap.size + 1) _ ((l.set k0 x).take k)) := Lib.hid (OwnV.on HO.out (belowQ (Below.refl _ _) nq))
      have HB2 : Hid (Below (w.heap.size + 1) (w.alloc (.cells #[.string X, .string x.2.1, .bool x.2.2.1, .string x.2.2.2.1, .slice x.2.2.2.2.1.1 x.2.2.2.2.1.2.1 x.2.2.2.2.1.2.2, .slice x.2.2.2.2.2.1 x.2.2.2.2.2.2.1 x.2.2.2.2.2.2.2] 26)) (wr.drewN nq)) := Lib.hid (belowQ HB.out nq)
      rw [← World.cell?_drewN wr nq] at c0 c1 c2 c3 c4 c5 q0 q1 q2 q3 q4 q5
      have hszV := HB2.out.size
      rw [World.size_alloc] at hszV
      clear HO HB
      generalize wr.drewN nq = V at *
      by_cases ek : k = k0
      · have HKK : Hid ((l.set k0 x).take (k + 1) = (l.set k0 x).take k ++ [x]) := Lib.hid (by rw [ek]; exact HSA.out)
        obtain ⟨R, hR⟩ : ∃ R, (l.set k0 x).take k = R := ⟨_, rfl⟩
        rw [hR] at HO1 HKK hln
        clear hR
        have hke : ((k : Int) == (k0 : Int)) = true := by rw [ek]; simp
        go_wp2_with (first
          | (at_builtin; refine wpList_append_own _ rfl _ _ 27 rfl (w.heap.size + 1) 26 i0 _ 6 104 Tryz.underlying27 hi hz0 hz1 hz2' rfl (by decide) _ _ _ rfl (World.ownsRow.alloc HO1.out.2 _) ⟨V.heap.size, 0, none⟩ 1 1 [.string X, .string x.2.1, .bool x.2.2.1, .string x.2.2.2.1, .slice x.2.2.2.2.1.1 x.2.2.2.2.1.2.1 x.2.2.2.2.1.2.2, .slice x.2.2.2.2.2.1 x.2.2.2.2.2.2.1 x.2.2.2.2.2.2.2] rfl rfl (by intro j u hj; match j, hj with | 0, hj => simp at hj; subst hj; simp [Addr.add] | 1, hj => simp at hj; subst hj; simp [Addr.add] | 2, hj => simp at hj; subst hj; simp [Addr.add] | 3, hj => simp at hj; subst hj; simp [Addr.add] | 4, hj => simp at hj; subst hj; simp [Addr.add] | 5, hj => simp at hj; subst hj; simp [Addr.add]) (by intro u hu; simp at hu; rcases hu with rfl | rfl | rfl | rfl | rfl | rfl <;> rfl) (by rw [List.length_map]; unfold maxLen; omega) (by rw [List.length_map]; omega) (by simp; omega) ?_))
        intro v' w3 hown' hgrow _
        have HO3 : Hid (OwnOZa w3 (w.heap.size + 1) v' ((l.set k0 x).take (k + 1))) := Lib.hid (by rw [HKK.out]; exact OwnOZa.app (x := x) HX.out (by first | exact hown' | (rw [List.length_map] at hown'; exact hown')))
        have HB3 : Hid (Below (w.heap.size + 1) (w.alloc (.cells #[.string X, .string x.2.1, .bool x.2.2.1, .string x.2.2.2.1, .slice x.2.2.2.2.1.1 x.2.2.2.2.1.2.1 x.2.2.2.2.1.2.2, .slice x.2.2.2.2.2.1 x.2.2.2.2.2.2.1 x.2.2.2.2.2.2.2] 26)) w3) := Lib.hid (OwnV.below HB2.out HO1.out hgrow (Nat.le_refl _) (by omega))
        clear hown' hgrow
        go_wp2
        go_roundw
        case rel => exact ⟨k + 1, by omega, by go_num, rfl, HO3, HB3⟩
        case measure => simp [intOf]; omega
      · have HKK := Lib.hid (HSK.out ek)
        obtain ⟨R, hR⟩ : ∃ R, (l.set k0 x).take k = R := ⟨_, rfl⟩
        rw [hR] at HO1 HKK hln
        clear hR
        have hke : ((k : Int) == (k0 : Int)) = false := by rw [beq_eq_false_iff_ne]; omega
        go_wp2_with (first
          | (at_builtin; refine wpList_append_own _ rfl _ _ 27 rfl (w.heap.size + 1) 26 i0 _ 6 104 Tryz.underlying27 hi hz0 hz1 hz2' rfl (by decide) _ _ _ rfl (World.ownsRow.alloc HO1.out.2 _) ⟨V.heap.size, 0, none⟩ 1 1 [.string X', .string y1, .bool y2, .string y3, .slice y4a y4n y4c, .slice y5a y5n y5c] rfl rfl (by intro j u hj; match j, hj with | 0, hj => simp at hj; subst hj; simp [Addr.add] | 1, hj => simp at hj; subst hj; simp [Addr.add] | 2, hj => simp at hj; subst hj; simp [Addr.add] | 3, hj => simp at hj; subst hj; simp [Addr.add] | 4, hj => simp at hj; subst hj; simp [Addr.add] | 5, hj => simp at hj; subst hj; simp [Addr.add]) (by intro u hu; simp at hu; rcases hu with rfl | rfl | rfl | rfl | rfl | rfl <;> rfl) (by rw [List.length_map]; unfold maxLen; omega) (by rw [List.length_map]; omega) (by simp; omega) ?_))
        intro v' w3 hown' hgrow _
        have HO3 : Hid (OwnOZa w3 (w.heap.size + 1) v' ((l.set k0 x).take (k + 1))) := Lib.hid (by rw [HKK.out]; exact OwnOZa.app (x := (y0, y1, y2, y3, (y4a, y4n, y4c), (y5a, y5n, y5c))) HYY.out (by first | exact hown' | (rw [List.length_map] at hown'; exact hown')))
        have HB3 : Hid (Below (w.heap.size + 1) (w.alloc (.cells #[.string X, .string x.2.1, .bool x.2.2.1, .string x.2.2.2.1, .slice x.2.2.2.2.1.1 x.2.2.2.2.1.2.1 x.2.2.2.2.1.2.2, .slice x.2.2.2.2.2.1 x.2.2.2.2.2.2.1 x.2.2.2.2.2.2.2] 26)) w3) := Lib.hid (OwnV.below HB2.out HO1.out hgrow (Nat.le_refl _) (by omega))
        clear hown' hgrow
        go_wp2
        go_roundw
        case rel => exact ⟨k + 1, by omega, by go_num, rfl, HO3, HB3⟩
        case measure => simp [intOf]; omega
    · obtain rfl : k = n := by omega
      have HF : Hid ((l.set k0 x).take k = l.set k0 x) := Lib.hid (List.take_of_length_le (by rw [List.length_set, HN.out]; exact Nat.le_refl _))
      rw [HF.out] at HO
      clear hlt
      go_wp2
      go_ret
      exact HP.out _ _ HO.out.holds HBW.out
theorem overO_ltZa {a b : Bs} (h : decide (a < b) = true) : decide (b < a) = false ∧ decide (b = a) = false :=
  have h := of_decide_eq_true h
  ⟨decide_eq_false (List.lt_asymm h), decide_eq_false (fun e => by subst e; exact absurd h (List.lt_irrefl _))⟩
theorem overO_noZa {a b : Bs} (h : decide (a < b) = false) (hn : b ≠ a) : decide (b < a) = true := decide_eq_true (by
  rcases List.le_iff_lt_or_eq.1 (List.not_lt.1 (of_decide_eq_false h)) with h | h
  · exact h
  · exact absurd h hn)
theorem noneO_pathZa {l : List OvZa} {x : OvZa} (h : l.findIdx? (pathIsOZa x.1) = none) {k : Nat} {y : OvZa} (hy : l[k]? = some y) : y.1 ≠ x.1 :=
  of_decide_eq_false (List.findIdx?_eq_none_iff.1 h y (List.mem_of_getElem? hy))
theorem putO_factsZa {l : List OvZa} {x : OvZa} (h : l.findIdx? (pathIsOZa x.1) = none) : ∃ m, m ≤ l.length ∧ (putOZa l x).length = l.length + 1 ∧
    (∀ (k : Nat) y, l[k]? = some y → k < m → decide (x.1 < y.1) = false ∧ (putOZa l x).take (k + 1) = (putOZa l x).take k ++ [y]) ∧
    (∀ y, l[m]? = some y → decide (x.1 < y.1) = true) ∧ (putOZa l x).take (m + 1) = (putOZa l x).take m ++ [x] ∧
    (∀ (k : Nat) y, l[k]? = some y → m ≤ k → (putOZa l x).take (k + 2) = (putOZa l x).take (k + 1) ++ [y]) := by
  have hP : putOZa l x = l.take (cutPOZa l x.1) ++ x :: l.drop (cutPOZa l x.1) := by unfold putOZa; rw [h]
  have hm : cutPOZa l x.1 ≤ l.length ∧ (∀ (k : Nat) y, l[k]? = some y → k < cutPOZa l x.1 → decide (x.1 < y.1) = false) ∧ (∀ y, l[cutPOZa l x.1]? = some y → decide (x.1 < y.1) = true) := by
    unfold cutPOZa
    cases hf : l.findIdx? (overOZa x.1) with
    | none =>
      refine ⟨Nat.le_refl _, fun k y hy _ => List.findIdx?_eq_none_iff.1 hf y (List.mem_of_getElem? hy), fun y hy => ?_⟩
      dsimp only at hy
      rw [List.getElem?_eq_none (Nat.le_refl _)] at hy; cases hy
    | some k0 =>
      obtain ⟨hk, h1, h2⟩ := List.findIdx?_eq_some_iff_getElem.1 hf
      refine ⟨Nat.le_of_lt hk, fun k y hy hlt => ?_, fun y hy => ?_⟩
      · have := h2 k hlt
        obtain ⟨hk', e⟩ := List.getElem?_eq_some_iff.1 hy
        rw [e] at this
        exact Bool.eq_false_iff.2 this
      · obtain ⟨hk', e⟩ := List.getElem?_eq_some_iff.1 hy
        have h1' := h1
        rw [e] at h1'
        exact h1'
  rw [hP]
  generalize cutPOZa l x.1 = m at *
  obtain ⟨hm1, hm2, hm3⟩ := hm
  have hlt : (l.take m).length = m := by rw [List.length_take]; omega
  refine ⟨m, hm1, by simp; omega, fun k y hy hk => ⟨hm2 k y hy hk, ?_⟩, hm3, ?_, fun k y hy hk => ?_⟩
  · rw [List.take_add_one, List.getElem?_append_left (by omega), List.getElem?_take, if_pos hk, hy]; rfl
  · rw [List.take_add_one, List.getElem?_append_right (by omega), hlt, Nat.sub_self]; rfl
  · rw [List.take_add_one (i := k + 1), List.getElem?_append_right (by omega), hlt, show k + 1 - m = (k - m) + 1 by omega, List.getElem?_cons_succ, List.getElem?_drop, show m + (k - m) = k by omega, hy]; rfl
set_option maxRecDepth 100000 in
set_option maxHeartbeats 8000000 in
theorem putO_ref_newZa (v : Value) (l : List OvZa) (hl : l.length ≤ 90000) (x : OvZa) (w : World) (h : HoldOZa w v l) (hk0 : l.findIdx? (pathIsOZa x.1) = none) : Calls Tryz.prog 21 #[v, aggOZa x] w (PutPostOZa l x w) := by
  have B1 := (Below.refl w.heap.size w).alloc (Nat.le_refl _) (.cells #[.string (bsT x.1), .string x.2.1, .bool x.2.2.1, .string x.2.2.2.1, .slice x.2.2.2.2.1.1 x.2.2.2.2.1.2.1 x.2.2.2.2.1.2.2, .slice x.2.2.2.2.2.1 x.2.2.2.2.2.2.1 x.2.2.2.2.2.2.2] 26)
  have FA := findO_refZa v l hl (bsT x.1) _ (HoldV.on h B1)
  have hi0 : idxOZa l (pathIsOZa x.1) = -1 := by unfold idxOZa; rw [hk0]
  rw [bytesOf, hi0] at FA
  obtain ⟨m, hml, hPl, hF1, hF2, hF3, hF4⟩ := putO_factsZa hk0
  have HNP := Lib.hid (fun (k : Nat) (y : OvZa) (hy : l[k]? = some y) => noneO_pathZa hk0 hy)
  obtain ⟨P, hP⟩ : ∃ P, putOZa l x = P := ⟨_, rfl⟩
  rw [hP] at hPl hF1 hF3 hF4
  have HP : Hid (∀ v w', HoldOZa w' v P → Below w.heap.size w w' → PutPostOZa l x w (.returned v) w') := Lib.hid (fun v w' h1 h2 => ⟨v, rfl, by rw [hP]; exact h1, h2⟩)
  have HX : Hid ((bsT x.1).data.toList = x.1) := Lib.hid (bytesOf _)
  have HXB := Lib.hid (boxV6Za w (.string (bsT x.1)) (.string x.2.1) (.bool x.2.2.1) (.string x.2.2.2.1) (.slice x.2.2.2.2.1.1 x.2.2.2.2.1.2.1 x.2.2.2.2.1.2.2) (.slice x.2.2.2.2.2.1 x.2.2.2.2.2.2.1 x.2.2.2.2.2.2.2) 26)
  obtain ⟨a, c, b, o, rfl, hc, ha, hcell⟩ := h.parts
  have HC := Lib.hid hcell
  obtain ⟨i0, hi, hz0, hz1, hz2'⟩ := info_parts infoOZa
  obtain ⟨n, hN⟩ : ∃ n, l.length = n := ⟨_, rfl⟩
  rw [hN] at hc ha hl FA hPl hml ⊢
  have hlen : ∀ k, (P.take k).length ≤ 90001 := fun k => by rw [List.length_take]; omega
  have HN := Lib.hid hN
  have HF1 := Lib.hid hF1
  have HF2 := Lib.hid hF2
  have HF3 := Lib.hid hF3
  have HF4 := Lib.hid hF4
  have HPL := Lib.hid hPl
  have HB1 := Lib.hid B1
  obtain ⟨X, hX⟩ : ∃ X, bsT x.1 = X := ⟨_, rfl⟩
  have HXX := Lib.hid hX
  rw [hX] at FA HX HXB HB1
  unfold aggOZa
  rw [hX]
  clear hcell hN h B1 hi0 hP hk0 hF1 hF2 hF3 hF4 hPl hX
  go_enter Tryz.func21, Tryz.ntmps21
  go_wp2_with (go_at_call 24; refine FA.mono ?_; rintro e w1 ⟨rfl, rfl⟩)
  clear FA
  go_loopw [5, 7, 8] (fun u t i wr => ∃ (k : Nat) (q : Bool), k ≤ n ∧ i = .int .i64 k ∧ t = .bool q ∧ Hid (q = decide (m < k)) ∧ Hid (OwnOZa wr (w.heap.size + 1) u (P.take (k + q.toNat))) ∧ Hid (Below (w.heap.size + 1) (w.alloc (.cells #[.string X, .string x.2.1, .bool x.2.2.1, .string x.2.2.2.1, .slice x.2.2.2.2.1.1 x.2.2.2.2.1.2.1 x.2.2.2.2.1.2.2, .slice x.2.2.2.2.2.1 x.2.2.2.2.2.2.1 x.2.2.2.2.2.2.2] 26)) wr)) (fun _ _ i _ => n - (intOf i).toNat)
  case atStart => exact ⟨0, false, by omega, rfl, rfl, Lib.hid (by simp), Lib.hid (OwnV.nil _ _ _ _), Lib.hid (Below.refl _ _)⟩
  case round =>
    obtain ⟨k, q, hk, rfl, rfl, HQ, HO, HB⟩ := hrel
    have hsz := HB.out.size
    rw [World.size_alloc] at hsz
    have HBW : Hid (Below w.heap.size w wr) := Lib.hid (HB1.out.trans (HB.out.mono (by omega)))
    have q0 := (HB.out.cell (p := ⟨w.heap.size, 0, none⟩) (by simp)).trans HXB.out.1
    have q1 := (HB.out.cell (p := ⟨w.heap.size, 1, none⟩) (by simp)).trans HXB.out.2.1
    have q2 := (HB.out.cell (p := ⟨w.heap.size, 2, none⟩) (by simp)).trans HXB.out.2.2.1
    have q3 := (HB.out.cell (p := ⟨w.heap.size, 3, none⟩) (by simp)).trans HXB.out.2.2.2.1
    have q4 := (HB.out.cell (p := ⟨w.heap.size, 4, none⟩) (by simp)).trans HXB.out.2.2.2.2.1
    have q5 := (HB.out.cell (p := ⟨w.heap.size, 5, none⟩) (by simp)).trans HXB.out.2.2.2.2.2
    by_cases hlt : k < n
    · obtain ⟨rfl, hbw⟩ := ha (by omega)
      obtain ⟨⟨y0, y1, y2, y3, ⟨y4a, y4n, y4c⟩, ⟨y5a, y5n, y5c⟩⟩, hy⟩ : ∃ y, l[k]? = some y := ⟨_, List.getElem?_eq_getElem (by rw [HN.out]; exact hlt)⟩
      obtain ⟨c0, c1, c2, c3, c4, c5⟩ := HC.out k _ hy
      dsimp only at c0 c1 c2 c3 c4 c5
      have HCW := Lib.hid (And.intro c0 (And.intro c1 (And.intro c2 (And.intro c3 (And.intro c4 c5)))))
      rw [← HBW.out.cell (p := ⟨b, o + k * 6, none⟩) hbw] at c0
      rw [← HBW.out.cell (p := ⟨b, o + k * 6 + 1, none⟩) hbw] at c1
      rw [← HBW.out.cell (p := ⟨b, o + k * 6 + 2, none⟩) hbw] at c2
      rw [← HBW.out.cell (p := ⟨b, o + k * 6 + 3, none⟩) hbw] at c3
      rw [← HBW.out.cell (p := ⟨b, o + k * 6 + 4, none⟩) hbw] at c4
      rw [← HBW.out.cell (p := ⟨b, o + k * 6 + 5, none⟩) hbw] at c5
      have HYY : Hid ((bsT y0).data.toList = y0) := Lib.hid (bytesOf _)
      have hls := lessT (bsT y0) X
      rw [HX.out, bytesOf] at hls
      have heq := eqT (bsT y0) X
      rw [HX.out, bytesOf] at heq
      generalize bsT y0 = X' at *
      have HY := Lib.hid hy
      clear hy
      have t0 : (0 : Int) ≤ (k : Int) := by omega
      have t1 : (k : Int) < (n : Int) := by omega
      have hke : ((k : Int) == (-1 : Int)) = false := by rw [beq_eq_false_iff_ne]; omega
      cases q with
      | true =>
        have hmk : m < k := of_decide_eq_true HQ.out.symm
        have hln := hlen (k + 1)
        have HKK := Lib.hid (HF4.out k _ HY.out (Nat.le_of_lt hmk))
        have HQ2 : Hid (true = decide (m < k + 1)) := Lib.hid (decide_eq_true (by omega)).symm
        clear hls heq hmk
        go_wp2
        go_quiet (fail)
        have HO1 : Hid (OwnOZa (wr.drewN nq) (w.heap.size + 1) _ (P.take (k + 1))) := Lib.hid (OwnV.on HO.out (belowQ (Below.refl _ _) nq))
        have HB2 : Hid (Below (w.heap.size + 1) (w.alloc (.cells #[.string X, .string x.2.1, .bool x.2.2.1, .string x.2.2.2.1, .slice x.2.2.2.2.1.1 x.2.2.2.2.1.2.1 x.2.2.2.2.1.2.2, .slice x.2.2.2.2.2.1 x.2.2.2.2.2.2.1 x.2.2.2.2.2.2.2] 26)) (wr.drewN nq)) := Lib.hid (belowQ HB.out nq)
        rw [← World.cell?_drewN wr nq] at c0 c1 c2 c3 c4 c5 q0 q1 q2 q3 q4 q5
        have hszV := HB2.out.size
        rw [World.size_alloc] at hszV
        clear HO HB
        generalize wr.drewN nq = V at *
        obtain ⟨R, hR⟩ : ∃ R, P.take (k + 1) = R := ⟨_, rfl⟩
        rw [hR] at HO1 HKK hln
        clear hR
        go_wp2_with (first
          | (at_builtin; refine wpList_append_own _ rfl _ _ 27 rfl (w.heap.size + 1) 26 i0 _ 6 104 Tryz.underlying27 hi hz0 hz1 hz2' rfl (by decide) _ _ _ rfl (World.ownsRow.alloc HO1.out.2 _) ⟨V.heap.size, 0, none⟩ 1 1 [.string X', .string y1, .bool y2, .string y3, .slice y4a y4n y4c, .slice y5a y5n y5c] rfl rfl (by intro j u hj; match j, hj with | 0, hj => simp at hj; subst hj; simp [Addr.add] | 1, hj => simp at hj; subst hj; simp [Addr.add] | 2, hj => simp at hj; subst hj; simp [Addr.add] | 3, hj => simp at hj; subst hj; simp [Addr.add] | 4, hj => simp at hj; subst hj; simp [Addr.add] | 5, hj => simp at hj; subst hj; simp [Addr.add]) (by intro u hu; simp at hu; rcases hu with rfl | rfl | rfl | rfl | rfl | rfl <;> rfl) (by rw [List.length_map]; unfold maxLen; omega) (by rw [List.length_map]; omega) (by simp; omega) ?_))
        intro v' w3 hown' hgrow _
        have HO3 : Hid (OwnOZa w3 (w.heap.size + 1) v' (P.take (k + 1 + true.toNat))) := Lib.hid (by show OwnOZa _ _ _ (P.take (k + 2)); rw [HKK.out]; exact OwnOZa.app (x := (y0, y1, y2, y3, (y4a, y4n, y4c), (y5a, y5n, y5c))) HYY.out (by first | exact hown' | (rw [List.length_map] at hown'; exact hown')))
        have HB3 : Hid (Below (w.heap.size + 1) (w.alloc (.cells #[.string X, .string x.2.1, .bool x.2.2.1, .string x.2.2.2.1, .slice x.2.2.2.2.1.1 x.2.2.2.2.1.2.1 x.2.2.2.2.1.2.2, .slice x.2.2.2.2.2.1 x.2.2.2.2.2.2.1 x.2.2.2.2.2.2.2] 26)) w3) := Lib.hid (OwnV.below HB2.out HO1.out hgrow (Nat.le_refl _) (by omega))
        clear hown' hgrow
        go_wp2
        go_roundw
        case rel => exact ⟨k + 1, true, by omega, by go_num, rfl, HQ2, HO3, HB3⟩
        case measure => simp [intOf]; omega
      | false =>
        have hmk : k ≤ m := Nat.le_of_not_lt (of_decide_eq_false HQ.out.symm)
        have hln := hlen k
        by_cases hkm : k = m
        · have hgt := overO_ltZa (HF2.out _ (by rw [← hkm]; exact HY.out))
          rw [hgt.1] at hls
          rw [hgt.2] at heq
          have HKK : Hid (P.take (k + 1) = P.take k ++ [x]) := Lib.hid (by rw [hkm]; exact HF3.out)
          have HK2 := Lib.hid (HF4.out k _ HY.out (by omega))
          have HQ2 : Hid (true = decide (m < k + 1)) := Lib.hid (decide_eq_true (by omega)).symm
          clear hgt hmk hkm
          go_wp2
          go_quiet (fail)
          have HO1 : Hid (OwnOZa (wr.drewN nq) (w.heap.size + 1) _ (P.take k)) := Lib.hid (OwnV.on HO.out (belowQ (Below.refl _ _) nq))
          have HB2 : Hid (Below (w.heap.size + 1) (w.alloc (.cells #[.string X, .string x.2.1, .bool x.2.2.1, .string x.2.2.2.1, .slice x.2.2.2.2.1.1 x.2.2.2.2.1.2.1 x.2.2.2.2.1.2.2, .slice x.2.2.2.2.2.1 x.2.2.2.2.2.2.1 x.2.2.2.2.2.2.2] 26)) (wr.drewN nq)) := Lib.hid (belowQ HB.out nq)
          rw [← World.cell?_drewN wr nq] at c0 c1 c2 c3 c4 c5 q0 q1 q2 q3 q4 q5
          have hszV := HB2.out.size
          rw [World.size_alloc] at hszV
          clear HO HB
          generalize wr.drewN nq = V at *
          obtain ⟨R, hR⟩ : ∃ R, P.take k = R := ⟨_, rfl⟩
          rw [hR] at HO1 HKK hln
          clear hR
          go_wp2_with (first
          | (at_builtin; refine wpList_append_own _ rfl _ _ 27 rfl (w.heap.size + 1) 26 i0 _ 6 104 Tryz.underlying27 hi hz0 hz1 hz2' rfl (by decide) _ _ _ rfl (World.ownsRow.alloc HO1.out.2 _) ⟨V.heap.size, 0, none⟩ 1 1 [.string X, .string x.2.1, .bool x.2.2.1, .string x.2.2.2.1, .slice x.2.2.2.2.1.1 x.2.2.2.2.1.2.1 x.2.2.2.2.1.2.2, .slice x.2.2.2.2.2.1 x.2.2.2.2.2.2.1 x.2.2.2.2.2.2.2] rfl rfl (by intro j u hj; match j, hj with | 0, hj => simp at hj; subst hj; simp [Addr.add] | 1, hj => simp at hj; subst hj; simp [Addr.add] | 2, hj => simp at hj; subst hj; simp [Addr.add] | 3, hj => simp at hj; subst hj; simp [Addr.add] | 4, hj => simp at hj; subst hj; simp [Addr.add] | 5, hj => simp at hj; subst hj; simp [Addr.add]) (by intro u hu; simp at hu; rcases hu with rfl | rfl | rfl | rfl | rfl | rfl <;> rfl) (by rw [List.length_map]; unfold maxLen; omega) (by rw [List.length_map]; omega) (by simp; omega) ?_))
          intro v' w3 hown' hgrow _
          have HO3 : Hid (OwnOZa w3 (w.heap.size + 1) v' (P.take (k + 1))) := Lib.hid (by rw [HKK.out]; exact OwnOZa.app (x := x) HX.out (by first | exact hown' | (rw [List.length_map] at hown'; exact hown')))
          have HB3 : Hid (Below (w.heap.size + 1) (w.alloc (.cells #[.string X, .string x.2.1, .bool x.2.2.1, .string x.2.2.2.1, .slice x.2.2.2.2.1.1 x.2.2.2.2.1.2.1 x.2.2.2.2.1.2.2, .slice x.2.2.2.2.2.1 x.2.2.2.2.2.2.1 x.2.2.2.2.2.2.2] 26)) w3) := Lib.hid (OwnV.below HB2.out HO1.out hgrow (Nat.le_refl _) (by omega))
          have HBW3 : Hid (Below w.heap.size w w3) := Lib.hid (HB1.out.trans (HB3.out.mono (by omega)))
          have hsz3 := HB3.out.size
          rw [World.size_alloc] at hsz3
          obtain ⟨d0, d1, d2, d3, d4, d5⟩ := HCW.out
          rw [← HBW3.out.cell (p := ⟨b, o + k * 6, none⟩) hbw] at d0
          rw [← HBW3.out.cell (p := ⟨b, o + k * 6 + 1, none⟩) hbw] at d1
          rw [← HBW3.out.cell (p := ⟨b, o + k * 6 + 2, none⟩) hbw] at d2
          rw [← HBW3.out.cell (p := ⟨b, o + k * 6 + 3, none⟩) hbw] at d3
          rw [← HBW3.out.cell (p := ⟨b, o + k * 6 + 4, none⟩) hbw] at d4
          rw [← HBW3.out.cell (p := ⟨b, o + k * 6 + 5, none⟩) hbw] at d5
          have hln2 := hlen (k + 1)
          obtain ⟨R2, hR2⟩ : ∃ R2, P.take (k + 1) = R2 := ⟨_, rfl⟩
          rw [hR2] at HO3 HK2 hln2
          clear hown' hgrow hR2 c0 c1 c2 c3 c4 c5 HKK hln
          go_wp2_with (first
          | (at_builtin; refine wpList_append_own _ rfl _ _ 27 rfl (w.heap.size + 1) 26 i0 _ 6 104 Tryz.underlying27 hi hz0 hz1 hz2' rfl (by decide) _ _ _ rfl (World.ownsRow.alloc HO3.out.2 _) ⟨w3.heap.size, 0, none⟩ 1 1 [.string X', .string y1, .bool y2, .string y3, .slice y4a y4n y4c, .slice y5a y5n y5c] rfl rfl (by intro j u hj; match j, hj with | 0, hj => simp at hj; subst hj; simp [Addr.add] | 1, hj => simp at hj; subst hj; simp [Addr.add] | 2, hj => simp at hj; subst hj; simp [Addr.add] | 3, hj => simp at hj; subst hj; simp [Addr.add] | 4, hj => simp at hj; subst hj; simp [Addr.add] | 5, hj => simp at hj; subst hj; simp [Addr.add]) (by intro u hu; simp at hu; rcases hu with rfl | rfl | rfl | rfl | rfl | rfl <;> rfl) (by rw [List.length_map]; unfold maxLen; omega) (by rw [List.length_map]; omega) (by simp; omega) ?_))
          intro v'' w4 hown' hgrow _
          have HO4 : Hid (OwnOZa w4 (w.heap.size + 1) v'' (P.take (k + 1 + true.toNat))) := Lib.hid (by show OwnOZa _ _ _ (P.take (k + 2)); rw [HK2.out]; exact OwnOZa.app (x := (y0, y1, y2, y3, (y4a, y4n, y4c), (y5a, y5n, y5c))) HYY.out (by first | exact hown' | (rw [List.length_map] at hown'; exact hown')))
          have HB4 : Hid (Below (w.heap.size + 1) (w.alloc (.cells #[.string X, .string x.2.1, .bool x.2.2.1, .string x.2.2.2.1, .slice x.2.2.2.2.1.1 x.2.2.2.2.1.2.1 x.2.2.2.2.1.2.2, .slice x.2.2.2.2.2.1 x.2.2.2.2.2.2.1 x.2.2.2.2.2.2.2] 26)) w4) := Lib.hid (OwnV.below HB3.out HO3.out hgrow (Nat.le_refl _) (by omega))
          clear hown' hgrow
          go_wp2
          go_roundw
          case rel => exact ⟨k + 1, true, by omega, by go_num, rfl, HQ2, HO4, HB4⟩
          case measure => simp [intOf]; omega
        · obtain ⟨hgt, hkk⟩ := HF1.out k _ HY.out (by omega)
          rw [overO_noZa hgt (HNP.out k _ HY.out)] at hls
          have HKK := Lib.hid hkk
          have HQ2 : Hid (false = decide (m < k + 1)) := Lib.hid (decide_eq_false (by omega)).symm
          clear hgt hmk hkm hkk
          go_wp2
          go_quiet (fail)
          have HO1 : Hid (OwnOZa (wr.drewN nq) (w.heap.size + 1) _ (P.take k)) := Lib.hid (OwnV.on HO.out (belowQ (Below.refl _ _) nq))
          have HB2 : Hid (Below (w.heap.size + 1) (w.alloc (.cells #[.string X, .string x.2.1, .bool x.2.2.1, .string x.2.2.2.1, .slice x.2.2.2.2.1.1 x.2.2.2.2.1.2.1 x.2.2.2.2.1.2.2, .slice x.2.2.2.2.2.1 x.2.2.2.2.2.2.1 x.2.2.2.2.2.2.2] 26)) (wr.drewN nq)) := Lib.hid (belowQ HB.out nq)
          rw [← World.cell?_drewN wr nq] at c0 c1 c2 c3 c4 c5 q0 q1 q2 q3 q4 q5
          have hszV := HB2.out.size
          rw [World.size_alloc] at hszV
          clear HO HB
          generalize wr.drewN nq = V at *
          obtain ⟨R, hR⟩ : ∃ R, P.take k = R := ⟨_, rfl⟩
          rw [hR] at HO1 HKK hln
          clear hR
          go_wp2_with (first
          | (at_builtin; refine wpList_append_own _ rfl _ _ 27 rfl (w.heap.size + 1) 26 i0 _ 6 104 Tryz.underlying27 hi hz0 hz1 hz2' rfl (by decide) _ _ _ rfl (World.ownsRow.alloc HO1.out.2 _) ⟨V.heap.size, 0, none⟩ 1 1 [.string X', .string y1, .bool y2, .string y3, .slice y4a y4n y4c, .slice y5a y5n y5c] rfl rfl (by intro j u hj; match j, hj with | 0, hj => simp at hj; subst hj; simp [Addr.add] | 1, hj => simp at hj; subst hj; simp [Addr.add] | 2, hj => simp at hj; subst hj; simp [Addr.add] | 3, hj => simp at hj; subst hj; simp [Addr.add] | 4, hj => simp at hj; subst hj; simp [Addr.add] | 5, hj => simp at hj; subst hj; simp [Addr.add]) (by intro u hu; simp at hu; rcases hu with rfl | rfl | rfl | rfl | rfl | rfl <;> rfl) (by rw [List.length_map]; unfold maxLen; omega) (by rw [List.length_map]; omega) (by simp; omega) ?_))
          intro v' w3 hown' hgrow _
          have HO3 : Hid (OwnOZa w3 (w.heap.size + 1) v' (P.take (k + 1 + false.toNat))) := Lib.hid (by show OwnOZa _ _ _ (P.take (k + 1)); rw [HKK.out]; exact OwnOZa.app (x := (y0, y1, y2, y3, (y4a, y4n, y4c), (y5a, y5n, y5c))) HYY.out (by first | exact hown' | (rw [List.length_map] at hown'; exact hown')))
          have HB3 : Hid (Below (w.heap.size + 1) (w.alloc (.cells #[.string X, .string x.2.1, .bool x.2.2.1, .string x.2.2.2.1, .slice x.2.2.2.2.1.1 x.2.2.2.2.1.2.1 x.2.2.2.2.1.2.2, .slice x.2.2.2.2.2.1 x.2.2.2.2.2.2.1 x.2.2.2.2.2.2.2] 26)) w3) := Lib.hid (OwnV.below HB2.out HO1.out hgrow (Nat.le_refl _) (by omega))
          clear hown' hgrow
          go_wp2
          go_roundw
          case rel => exact ⟨k + 1, false, by omega, by go_num, rfl, HQ2, HO3, HB3⟩
          case measure => simp [intOf]; omega
    · obtain rfl : k = n := by omega
      have HF : Hid (P.take (k + 1) = P) := Lib.hid (List.take_of_length_le (by rw [HPL.out]; exact Nat.le_refl _))
      cases q with
      | true =>
        have HO1 : Hid (OwnOZa wr (w.heap.size + 1) u5 P) := Lib.hid (by have := HO.out; rw [show k + true.toNat = k + 1 from rfl, HF.out] at this; exact this)
        clear hlt HO
        go_wp2
        go_ret
        exact HP.out _ _ HO1.out.holds HBW.out
      | false =>
        have hmk : k = m := by have := of_decide_eq_false HQ.out.symm; omega
        have hpk : P = P.take k ++ [x] := by
          have e := HF3.out
          rw [← hmk] at e
          exact HF.out.symm.trans e
        have HKK : Hid (P = P.take k ++ [x]) := Lib.hid hpk
        clear hpk
        have HO1 : Hid (OwnOZa wr (w.heap.size + 1) u5 (P.take k)) := HO
        have hln := hlen k
        obtain ⟨R, hR⟩ : ∃ R, P.take k = R := ⟨_, rfl⟩
        rw [hR] at HO1 hln
        have HKK2 : Hid (P = R ++ [x]) := Lib.hid (by rw [← hR]; exact HKK.out)
        clear hR hlt HO HKK
        go_wp2_with (first
          | (at_builtin; refine wpList_append_own _ rfl _ _ 27 rfl (w.heap.size + 1) 26 i0 _ 6 104 Tryz.underlying27 hi hz0 hz1 hz2' rfl (by decide) _ _ _ rfl (World.ownsRow.alloc HO1.out.2 _) ⟨wr.heap.size, 0, none⟩ 1 1 [.string X, .string x.2.1, .bool x.2.2.1, .string x.2.2.2.1, .slice x.2.2.2.2.1.1 x.2.2.2.2.1.2.1 x.2.2.2.2.1.2.2, .slice x.2.2.2.2.2.1 x.2.2.2.2.2.2.1 x.2.2.2.2.2.2.2] rfl rfl (by intro j u hj; match j, hj with | 0, hj => simp at hj; subst hj; simp [Addr.add] | 1, hj => simp at hj; subst hj; simp [Addr.add] | 2, hj => simp at hj; subst hj; simp [Addr.add] | 3, hj => simp at hj; subst hj; simp [Addr.add] | 4, hj => simp at hj; subst hj; simp [Addr.add] | 5, hj => simp at hj; subst hj; simp [Addr.add]) (by intro u hu; simp at hu; rcases hu with rfl | rfl | rfl | rfl | rfl | rfl <;> rfl) (by rw [List.length_map]; unfold maxLen; omega) (by rw [List.length_map]; omega) (by simp; omega) ?_))
        intro v' w3 hown' hgrow _
        have HO3 : Hid (OwnOZa w3 (w.heap.size + 1) v' P) := Lib.hid (by rw [HKK2.out]; exact OwnOZa.app (x := x) HX.out (by first | exact hown' | (rw [List.length_map] at hown'; exact hown')))
        have HB3 : Hid (Below (w.heap.size + 1) (w.alloc (.cells #[.string X, .string x.2.1, .bool x.2.2.1, .string x.2.2.2.1, .slice x.2.2.2.2.1.1 x.2.2.2.2.1.2.1 x.2.2.2.2.1.2.2, .slice x.2.2.2.2.2.1 x.2.2.2.2.2.2.1 x.2.2.2.2.2.2.2] 26)) w3) := Lib.hid (OwnV.below HB.out HO1.out hgrow (Nat.le_refl _) (by omega))
        clear hown' hgrow
        go_wp2
        go_ret
        exact HP.out _ _ HO3.out.holds (HB1.out.trans (HB3.out.mono (by omega)))
theorem putO_refZa (v : Value) (l : List OvZa) (hl : l.length ≤ 90000) (x : OvZa) (w : World) (h : HoldOZa w v l) : Calls Tryz.prog 21 #[v, aggOZa x] w (PutPostOZa l x w) := by
  cases hk0 : l.findIdx? (pathIsOZa x.1) with
  | none => exact putO_ref_newZa v l hl x w h hk0
  | some k0 => exact putO_ref_oldZa v l hl x w h k0 hk0
end Go.Proofs.YtnfhccnicojdcaaGreatDoor
namespace Go.Proofs.YtnfhccnicojdcaaGreatDoor
open Go.RowKit
theorem overO_isZa (a b : Bs) : decide (a < b) = (!(decide (b < a) || decide (b = a))) := by
  by_cases h : a < b
  · obtain ⟨h1, h2⟩ := overO_ltZa (decide_eq_true h)
    rw [h1, h2, decide_eq_true h]; rfl
  · by_cases e : b = a
    · rw [decide_eq_false h, decide_eq_true e, Bool.or_true]; rfl
    · rw [decide_eq_false h, overO_noZa (decide_eq_false h) e]; rfl
set_option maxRecDepth 100000 in
set_option maxHeartbeats 4000000 in
theorem putpO_anyZa (B1 B2 : Nat) (K : ByteArray) (kv1 : ByteArray) (kv2 : Bool) (kv3 : ByteArray) (kv4a : Option Addr) (kv4n kv4c : Nat) (kv5a : Option Addr) (kv5n kv5c : Nat) (x : OvZa) (W : World) (h1 : W.cell? ⟨B1, 0, none⟩ = some kyOZa) (g0 : W.cell? ⟨B2, 0, none⟩ = some (.string K)) (g1 : W.cell? ⟨B2, 1, none⟩ = some (.string kv1)) (g2 : W.cell? ⟨B2, 2, none⟩ = some (.bool kv2)) (g3 : W.cell? ⟨B2, 3, none⟩ = some (.string kv3)) (g4 : W.cell? ⟨B2, 4, none⟩ = some (.slice kv4a kv4n kv4c)) (g5 : W.cell? ⟨B2, 5, none⟩ = some (.slice kv5a kv5n kv5c)) :
    Calls Tryz.prog 76 #[aggOZa x, .pointer (some ⟨B1, 0, none⟩), .pointer (some ⟨B2, 0, none⟩)] W fun e w' => e = .returned (.bool (overOZa K.data.toList x)) ∧ Below W.heap.size W w' := by
  obtain ⟨t, t1, t2, t3, ⟨t4a, t4n, t4c⟩, ⟨t5a, t5n, t5c⟩⟩ := x
  unfold kyOZa at h1
  have hls := lessT (bsT t) K
  have heq := eqT (bsT t) K
  rw [bytesOf] at hls heq
  have HR := Lib.hid (overO_isZa K.data.toList t)
  unfold overOZa aggOZa
  dsimp only
  have PA := fun X p1 p2 p3 p4a p4n p4c p5a p5n p5c w => pathOf_anyZa X p1 p2 p3 p4a p4n p4c p5a p5n p5c w
  generalize decide (K.data.toList < t) = q at *
  generalize decide (t < K.data.toList) = q1 at *
  generalize decide (t = K.data.toList) = q2 at *
  generalize bsT t = X at *
  have l1 := World.block_lt_of_cell? W _ h1
  have l2 := World.block_lt_of_cell? W _ g0
  have B0 := (Below.refl W.heap.size W).alloc (Nat.le_refl _) (.cells #[.string X, .string t1, .bool t2, .string t3, .slice t4a t4n t4c, .slice t5a t5n t5c] 26)
  obtain ⟨x0, x1, x2, x3, x4, x5⟩ := boxV6Za W (.string X) (.string t1) (.bool t2) (.string t3) (.slice t4a t4n t4c) (.slice t5a t5n t5c) 26
  have k1 := (B0.cell l1).trans h1
  have e0 := (B0.cell (p := ⟨B2, 0, none⟩) l2).trans g0
  have e1 := (B0.cell (p := ⟨B2, 1, none⟩) l2).trans g1
  have e2 := (B0.cell (p := ⟨B2, 2, none⟩) l2).trans g2
  have e3 := (B0.cell (p := ⟨B2, 3, none⟩) l2).trans g3
  have e4 := (B0.cell (p := ⟨B2, 4, none⟩) l2).trans g4
  have e5 := (B0.cell (p := ⟨B2, 5, none⟩) l2).trans g5
  have hs := And.intro x0 (And.intro x1 (And.intro x2 (And.intro x3 (And.intro x4 (And.intro x5 (And.intro k1 (And.intro e0 (And.intro e1 (And.intro e2 (And.intro e3 (And.intro e4 (And.intro e5 B0))))))))))))
  clear x0 x1 x2 x3 x4 x5 k1 e0 e1 e2 e3 e4 e5
  go_enter Tryz.func76, Tryz.ntmps76
  go_wp2
  generalize W.alloc (.cells #[.string X, .string t1, .bool t2, .string t3, .slice t4a t4n t4c, .slice t5a t5n t5c] 26) = W2 at *
  obtain ⟨x0, x1, x2, x3, x4, x5, k1, e0, e1, e2, e3, e4, e5, hB⟩ := hs
  have hs := And.intro x0 (And.intro x1 (And.intro x2 (And.intro x3 (And.intro x4 (And.intro x5 (And.intro k1 (And.intro e0 (And.intro e1 (And.intro e2 (And.intro e3 (And.intro e4 (And.intro e5 hB))))))))))))
  clear B0 h1 g0 g1 g2 g3 g4 g5
  have BE := fun (V : World) (h : V.cell? ⟨W.heap.size, 0, none⟩ = some (.string X) ∧ V.cell? ⟨W.heap.size, 1, none⟩ = some (.string t1) ∧ V.cell? ⟨W.heap.size, 2, none⟩ = some (.bool t2) ∧ V.cell? ⟨W.heap.size, 3, none⟩ = some (.string t3) ∧ V.cell? ⟨W.heap.size, 4, none⟩ = some (.slice t4a t4n t4c) ∧ V.cell? ⟨W.heap.size, 5, none⟩ = some (.slice t5a t5n t5c) ∧ V.cell? ⟨B1, 0, none⟩ = some (.func (.func 41) #[] #[]) ∧ V.cell? ⟨B2, 0, none⟩ = some (.string K) ∧ V.cell? ⟨B2, 1, none⟩ = some (.string kv1) ∧ V.cell? ⟨B2, 2, none⟩ = some (.bool kv2) ∧ V.cell? ⟨B2, 3, none⟩ = some (.string kv3) ∧ V.cell? ⟨B2, 4, none⟩ = some (.slice kv4a kv4n kv4c) ∧ V.cell? ⟨B2, 5, none⟩ = some (.slice kv5a kv5n kv5c) ∧ Below W.heap.size W V) => AtF.be (w := W) (l := [(⟨W.heap.size, 0, none⟩, .string X), (⟨W.heap.size, 1, none⟩, .string t1), (⟨W.heap.size, 2, none⟩, .bool t2), (⟨W.heap.size, 3, none⟩, .string t3), (⟨W.heap.size, 4, none⟩, .slice t4a t4n t4c), (⟨W.heap.size, 5, none⟩, .slice t5a t5n t5c), (⟨B1, 0, none⟩, .func (.func 41) #[] #[]), (⟨B2, 0, none⟩, .string K), (⟨B2, 1, none⟩, .string kv1), (⟨B2, 2, none⟩, .bool kv2), (⟨B2, 3, none⟩, .string kv3), (⟨B2, 4, none⟩, .slice kv4a kv4n kv4c), (⟨B2, 5, none⟩, .slice kv5a kv5n kv5c)]) h
  go_region_held3 (fun V => V.cell? ⟨W.heap.size, 0, none⟩ = some (.string X) ∧ V.cell? ⟨W.heap.size, 1, none⟩ = some (.string t1) ∧ V.cell? ⟨W.heap.size, 2, none⟩ = some (.bool t2) ∧ V.cell? ⟨W.heap.size, 3, none⟩ = some (.string t3) ∧ V.cell? ⟨W.heap.size, 4, none⟩ = some (.slice t4a t4n t4c) ∧ V.cell? ⟨W.heap.size, 5, none⟩ = some (.slice t5a t5n t5c) ∧ V.cell? ⟨B1, 0, none⟩ = some (.func (.func 41) #[] #[]) ∧ V.cell? ⟨B2, 0, none⟩ = some (.string K) ∧ V.cell? ⟨B2, 1, none⟩ = some (.string kv1) ∧ V.cell? ⟨B2, 2, none⟩ = some (.bool kv2) ∧ V.cell? ⟨B2, 3, none⟩ = some (.string kv3) ∧ V.cell? ⟨B2, 4, none⟩ = some (.slice kv4a kv4n kv4c) ∧ V.cell? ⟨B2, 5, none⟩ = some (.slice kv5a kv5n kv5c) ∧ Below W.heap.size W V)
    (first | assumption | exact hs | exact AtF.dr (w := W) (l := [(⟨W.heap.size, 0, none⟩, .string X), (⟨W.heap.size, 1, none⟩, .string t1), (⟨W.heap.size, 2, none⟩, .bool t2), (⟨W.heap.size, 3, none⟩, .string t3), (⟨W.heap.size, 4, none⟩, .slice t4a t4n t4c), (⟨W.heap.size, 5, none⟩, .slice t5a t5n t5c), (⟨B1, 0, none⟩, .func (.func 41) #[] #[]), (⟨B2, 0, none⟩, .string K), (⟨B2, 1, none⟩, .string kv1), (⟨B2, 2, none⟩, .bool kv2), (⟨B2, 3, none⟩, .string kv3), (⟨B2, 4, none⟩, .slice kv4a kv4n kv4c), (⟨B2, 5, none⟩, .slice kv5a kv5n kv5c)]) hs | exact AtF.dr (w := W) (l := [(⟨W.heap.size, 0, none⟩, .string X), (⟨W.heap.size, 1, none⟩, .string t1), (⟨W.heap.size, 2, none⟩, .bool t2), (⟨W.heap.size, 3, none⟩, .string t3), (⟨W.heap.size, 4, none⟩, .slice t4a t4n t4c), (⟨W.heap.size, 5, none⟩, .slice t5a t5n t5c), (⟨B1, 0, none⟩, .func (.func 41) #[] #[]), (⟨B2, 0, none⟩, .string K), (⟨B2, 1, none⟩, .string kv1), (⟨B2, 2, none⟩, .bool kv2), (⟨B2, 3, none⟩, .string kv3), (⟨B2, 4, none⟩, .slice kv4a kv4n kv4c), (⟨B2, 5, none⟩, .slice kv5a kv5n kv5c)]) (by assumption) | exact AtF.on (w := W) (l := [(⟨W.heap.size, 0, none⟩, .string X), (⟨W.heap.size, 1, none⟩, .string t1), (⟨W.heap.size, 2, none⟩, .bool t2), (⟨W.heap.size, 3, none⟩, .string t3), (⟨W.heap.size, 4, none⟩, .slice t4a t4n t4c), (⟨W.heap.size, 5, none⟩, .slice t5a t5n t5c), (⟨B1, 0, none⟩, .func (.func 41) #[] #[]), (⟨B2, 0, none⟩, .string K), (⟨B2, 1, none⟩, .string kv1), (⟨B2, 2, none⟩, .bool kv2), (⟨B2, 3, none⟩, .string kv3), (⟨B2, 4, none⟩, .slice kv4a kv4n kv4c), (⟨B2, 5, none⟩, .slice kv5a kv5n kv5c)]) (by assumption) (by assumption) | exact AtF.al (w := W) (l := [(⟨W.heap.size, 0, none⟩, .string X), (⟨W.heap.size, 1, none⟩, .string t1), (⟨W.heap.size, 2, none⟩, .bool t2), (⟨W.heap.size, 3, none⟩, .string t3), (⟨W.heap.size, 4, none⟩, .slice t4a t4n t4c), (⟨W.heap.size, 5, none⟩, .slice t5a t5n t5c), (⟨B1, 0, none⟩, .func (.func 41) #[] #[]), (⟨B2, 0, none⟩, .string K), (⟨B2, 1, none⟩, .string kv1), (⟨B2, 2, none⟩, .bool kv2), (⟨B2, 3, none⟩, .string kv3), (⟨B2, 4, none⟩, .slice kv4a kv4n kv4c), (⟨B2, 5, none⟩, .slice kv5a kv5n kv5c)]) (by assumption) _ | exact AtF.ald (w := W) (l := [(⟨W.heap.size, 0, none⟩, .string X), (⟨W.heap.size, 1, none⟩, .string t1), (⟨W.heap.size, 2, none⟩, .bool t2), (⟨W.heap.size, 3, none⟩, .string t3), (⟨W.heap.size, 4, none⟩, .slice t4a t4n t4c), (⟨W.heap.size, 5, none⟩, .slice t5a t5n t5c), (⟨B1, 0, none⟩, .func (.func 41) #[] #[]), (⟨B2, 0, none⟩, .string K), (⟨B2, 1, none⟩, .string kv1), (⟨B2, 2, none⟩, .bool kv2), (⟨B2, 3, none⟩, .string kv3), (⟨B2, 4, none⟩, .slice kv4a kv4n kv4c), (⟨B2, 5, none⟩, .slice kv5a kv5n kv5c)]) (by assumption) _ | exact AtF.al (w := W) (l := [(⟨W.heap.size, 0, none⟩, .string X), (⟨W.heap.size, 1, none⟩, .string t1), (⟨W.heap.size, 2, none⟩, .bool t2), (⟨W.heap.size, 3, none⟩, .string t3), (⟨W.heap.size, 4, none⟩, .slice t4a t4n t4c), (⟨W.heap.size, 5, none⟩, .slice t5a t5n t5c), (⟨B1, 0, none⟩, .func (.func 41) #[] #[]), (⟨B2, 0, none⟩, .string K), (⟨B2, 1, none⟩, .string kv1), (⟨B2, 2, none⟩, .bool kv2), (⟨B2, 3, none⟩, .string kv3), (⟨B2, 4, none⟩, .slice kv4a kv4n kv4c), (⟨B2, 5, none⟩, .slice kv5a kv5n kv5c)]) hs _ | exact AtF.ald (w := W) (l := [(⟨W.heap.size, 0, none⟩, .string X), (⟨W.heap.size, 1, none⟩, .string t1), (⟨W.heap.size, 2, none⟩, .bool t2), (⟨W.heap.size, 3, none⟩, .string t3), (⟨W.heap.size, 4, none⟩, .slice t4a t4n t4c), (⟨W.heap.size, 5, none⟩, .slice t5a t5n t5c), (⟨B1, 0, none⟩, .func (.func 41) #[] #[]), (⟨B2, 0, none⟩, .string K), (⟨B2, 1, none⟩, .string kv1), (⟨B2, 2, none⟩, .bool kv2), (⟨B2, 3, none⟩, .string kv3), (⟨B2, 4, none⟩, .slice kv4a kv4n kv4c), (⟨B2, 5, none⟩, .slice kv5a kv5n kv5c)]) hs _)
    ((go_at_call 41; (with_reducible refine (PA _ _ _ _ _ _ _ _ _ _ _).mono ?_); rintro e w3 ⟨rfl, hb⟩))
  all_goals
    rename_i hHeld
    have HW3 := Lib.hid (BE _ hHeld)
    clear hHeld
    go_wp2
    go_ret
    exact ⟨by rw [HR.out]; cases q1 <;> cases q2 <;> rfl, HW3.out⟩
end Go.Proofs.YtnfhccnicojdcaaGreatDoor
