import Derived.Test.YtnnagboeimeiiaaGreatDoorWUKeyT
import Derived.Test.YtnnagboeimeiiaaGreatDoorWVOrder
import Derived.Lib.SliceRun
import Derived.RangeFuncRecord
import Derived.Test.YtnnagboeimeiiaaGreatDoorWIns
import Derived.Shelf.Spec.SlicesInsert
namespace Go.Proofs.YtnnagboeimeiiaaGreatDoor
open Go.RowKit
abbrev SlcUa := Option Addr × Nat × Nat
abbrev OvUa := Bs × ByteArray × Int × SlcUa × SlcUa × SlcUa × SlcUa × SlcUa × SlcUa
theorem boxV9Ua (W : World) (v0 v1 v2 v3 v4 v5 v6 v7 v8 : Value) (t : TypeId) : (W.alloc (.cells #[v0, v1, v2, v3, v4, v5, v6, v7, v8] t)).cell? ⟨W.heap.size, 0, none⟩ = some v0 ∧ (W.alloc (.cells #[v0, v1, v2, v3, v4, v5, v6, v7, v8] t)).cell? ⟨W.heap.size, 1, none⟩ = some v1 ∧ (W.alloc (.cells #[v0, v1, v2, v3, v4, v5, v6, v7, v8] t)).cell? ⟨W.heap.size, 2, none⟩ = some v2 ∧ (W.alloc (.cells #[v0, v1, v2, v3, v4, v5, v6, v7, v8] t)).cell? ⟨W.heap.size, 3, none⟩ = some v3 ∧ (W.alloc (.cells #[v0, v1, v2, v3, v4, v5, v6, v7, v8] t)).cell? ⟨W.heap.size, 4, none⟩ = some v4 ∧ (W.alloc (.cells #[v0, v1, v2, v3, v4, v5, v6, v7, v8] t)).cell? ⟨W.heap.size, 5, none⟩ = some v5 ∧ (W.alloc (.cells #[v0, v1, v2, v3, v4, v5, v6, v7, v8] t)).cell? ⟨W.heap.size, 6, none⟩ = some v6 ∧ (W.alloc (.cells #[v0, v1, v2, v3, v4, v5, v6, v7, v8] t)).cell? ⟨W.heap.size, 7, none⟩ = some v7 ∧ (W.alloc (.cells #[v0, v1, v2, v3, v4, v5, v6, v7, v8] t)).cell? ⟨W.heap.size, 8, none⟩ = some v8 := by
 refine ⟨?_, ?_, ?_, ?_, ?_, ?_, ?_, ?_, ?_⟩ <;> (rw [World.cell?_alloc_new]; rfl)
theorem box9_onUa {w W : World} {v0 v1 v2 v3 v4 v5 v6 v7 v8 : Value} {t : TypeId} (hb : Below (w.alloc (.cells #[v0, v1, v2, v3, v4, v5, v6, v7, v8] t)).heap.size (w.alloc (.cells #[v0, v1, v2, v3, v4, v5, v6, v7, v8] t)) W) :
   W.cell? ⟨w.heap.size, 0, none⟩ = some v0 ∧ W.cell? ⟨w.heap.size, 1, none⟩ = some v1 ∧ W.cell? ⟨w.heap.size, 2, none⟩ = some v2 ∧ W.cell? ⟨w.heap.size, 3, none⟩ = some v3 ∧ W.cell? ⟨w.heap.size, 4, none⟩ = some v4 ∧ W.cell? ⟨w.heap.size, 5, none⟩ = some v5 ∧ W.cell? ⟨w.heap.size, 6, none⟩ = some v6 ∧ W.cell? ⟨w.heap.size, 7, none⟩ = some v7 ∧ W.cell? ⟨w.heap.size, 8, none⟩ = some v8 := by
 obtain ⟨x0, x1, x2, x3, x4, x5, x6, x7, x8⟩ := boxV9Ua w v0 v1 v2 v3 v4 v5 v6 v7 v8 t
 have h := fun i => hb.cell (p := ⟨w.heap.size, i, none⟩) (by rw [World.size_alloc]; exact Nat.lt_succ_self _)
 exact ⟨(h 0).trans x0, (h 1).trans x1, (h 2).trans x2, (h 3).trans x3, (h 4).trans x4, (h 5).trans x5, (h 6).trans x6, (h 7).trans x7, (h 8).trans x8⟩
abbrev kyOUa : Value := .func (.func 36) #[] #[]
theorem pathOf_anyUa (X : ByteArray) (p1 : ByteArray) (p2 : Int) (p3a : Option Addr) (p3n p3c : Nat) (p4a : Option Addr) (p4n p4c : Nat) (p5a : Option Addr) (p5n p5c : Nat) (p6a : Option Addr) (p6n p6c : Nat) (p7a : Option Addr) (p7n p7c : Nat) (p8a : Option Addr) (p8n p8c : Nat) (w : World) : Calls Tryz.prog 36 #[.agg #[.string X, .string p1, .int .i64 p2, .slice p3a p3n p3c, .slice p4a p4n p4c, .slice p5a p5n p5c, .slice p6a p6n p6c, .slice p7a p7n p7c, .slice p8a p8n p8c]] w fun e w' => e = .returned (.string X) ∧ Below w.heap.size w w' := by
 obtain ⟨x0, x1, x2, x3, x4, x5, x6, x7, x8⟩ := boxV9Ua w (.string X) (.string p1) (.int .i64 p2) (.slice p3a p3n p3c) (.slice p4a p4n p4c) (.slice p5a p5n p5c) (.slice p6a p6n p6c) (.slice p7a p7n p7c) (.slice p8a p8n p8c) 43
 have B0 := Lib.hid ((Below.refl w.heap.size w).alloc (Nat.le_refl _) (.cells #[.string X, .string p1, .int .i64 p2, .slice p3a p3n p3c, .slice p4a p4n p4c, .slice p5a p5n p5c, .slice p6a p6n p6c, .slice p7a p7n p7c, .slice p8a p8n p8c] 43))
 go_enter Tryz.func36, Tryz.ntmps36
 go_wp2
 go_ret
 exact ⟨rfl, B0.out⟩
abbrev cellsOUa (x : OvUa) : Rw := [.string (bsT x.1), .string x.2.1, .int .i64 x.2.2.1, .slice x.2.2.2.1.1 x.2.2.2.1.2.1 x.2.2.2.1.2.2, .slice x.2.2.2.2.1.1 x.2.2.2.2.1.2.1 x.2.2.2.2.1.2.2, .slice x.2.2.2.2.2.1.1 x.2.2.2.2.2.1.2.1 x.2.2.2.2.2.1.2.2, .slice x.2.2.2.2.2.2.1.1 x.2.2.2.2.2.2.1.2.1 x.2.2.2.2.2.2.1.2.2, .slice x.2.2.2.2.2.2.2.1.1 x.2.2.2.2.2.2.2.1.2.1 x.2.2.2.2.2.2.2.1.2.2, .slice x.2.2.2.2.2.2.2.2.1 x.2.2.2.2.2.2.2.2.2.1 x.2.2.2.2.2.2.2.2.2.2]
abbrev aggOUa (x : OvUa) : Value := .agg #[.string (bsT x.1), .string x.2.1, .int .i64 x.2.2.1, .slice x.2.2.2.1.1 x.2.2.2.1.2.1 x.2.2.2.1.2.2, .slice x.2.2.2.2.1.1 x.2.2.2.2.1.2.1 x.2.2.2.2.1.2.2, .slice x.2.2.2.2.2.1.1 x.2.2.2.2.2.1.2.1 x.2.2.2.2.2.1.2.2, .slice x.2.2.2.2.2.2.1.1 x.2.2.2.2.2.2.1.2.1 x.2.2.2.2.2.2.1.2.2, .slice x.2.2.2.2.2.2.2.1.1 x.2.2.2.2.2.2.2.1.2.1 x.2.2.2.2.2.2.2.1.2.2, .slice x.2.2.2.2.2.2.2.2.1 x.2.2.2.2.2.2.2.2.2.1 x.2.2.2.2.2.2.2.2.2.2]
abbrev HoldOUa (w : World) (v : Value) (l : List (OvUa)) : Prop := HoldV 9 w v (l.map cellsOUa)
theorem HoldOUa.parts {w : World} {v : Value} {l : List (OvUa)} (h : HoldOUa w v l) : ∃ (a : Option Addr) (c b o : Nat), v = .slice a l.length c ∧ l.length ≤ c ∧ (0 < l.length → a = some ⟨b, o, none⟩ ∧ b < w.heap.size) ∧
   ∀ (j : Nat) x, l[j]? = some x → w.cell? ⟨b, o + j * 9, none⟩ = some (.string (bsT x.1)) ∧ w.cell? ⟨b, o + j * 9 + 1, none⟩ = some (.string x.2.1) ∧ w.cell? ⟨b, o + j * 9 + 2, none⟩ = some (.int .i64 x.2.2.1) ∧ w.cell? ⟨b, o + j * 9 + 3, none⟩ = some (.slice x.2.2.2.1.1 x.2.2.2.1.2.1 x.2.2.2.1.2.2) ∧ w.cell? ⟨b, o + j * 9 + 4, none⟩ = some (.slice x.2.2.2.2.1.1 x.2.2.2.2.1.2.1 x.2.2.2.2.1.2.2) ∧ w.cell? ⟨b, o + j * 9 + 5, none⟩ = some (.slice x.2.2.2.2.2.1.1 x.2.2.2.2.2.1.2.1 x.2.2.2.2.2.1.2.2) ∧ w.cell? ⟨b, o + j * 9 + 6, none⟩ = some (.slice x.2.2.2.2.2.2.1.1 x.2.2.2.2.2.2.1.2.1 x.2.2.2.2.2.2.1.2.2) ∧ w.cell? ⟨b, o + j * 9 + 7, none⟩ = some (.slice x.2.2.2.2.2.2.2.1.1 x.2.2.2.2.2.2.2.1.2.1 x.2.2.2.2.2.2.2.1.2.2) ∧ w.cell? ⟨b, o + j * 9 + 8, none⟩ = some (.slice x.2.2.2.2.2.2.2.2.1 x.2.2.2.2.2.2.2.2.2.1 x.2.2.2.2.2.2.2.2.2.2) := by
 obtain ⟨a, c, b, o, e, hc, ha, hcell⟩ := h
 rw [List.length_map] at e hc ha
 refine ⟨a, c, b, o, e, hc, ha, fun j x hx => ?_⟩
 have := hcell j (cellsOUa x) (by rw [List.getElem?_map, hx]; rfl)
 exact ⟨this 0 _ (by omega) rfl, this 1 _ (by omega) rfl, this 2 _ (by omega) rfl, this 3 _ (by omega) rfl, this 4 _ (by omega) rfl, this 5 _ (by omega) rfl, this 6 _ (by omega) rfl, this 7 _ (by omega) rfl, this 8 _ (by omega) rfl⟩
abbrev OwnOUa (w : World) (base : Nat) (v : Value) (l : List (OvUa)) : Prop := OwnV 43 9 w base v (l.map cellsOUa)
theorem cellsO_lenUa (l : List (OvUa)) : ∀ r ∈ l.map cellsOUa, r.length = 9 := fun r hr => by obtain ⟨x, _, rfl⟩ := List.mem_map.1 hr; rfl
theorem OwnOUa.app {w' : World} {base : Nat} {v' : Value} {l : List (OvUa)} {x : OvUa} {c0 : ByteArray} (h0 : c0.data.toList = x.1) (h : w'.ownsRow base 43 9 v' (l.length + 1) ((l.map cellsOUa).flatten ++ [.string c0, .string x.2.1, .int .i64 x.2.2.1, .slice x.2.2.2.1.1 x.2.2.2.1.2.1 x.2.2.2.1.2.2, .slice x.2.2.2.2.1.1 x.2.2.2.2.1.2.1 x.2.2.2.2.1.2.2, .slice x.2.2.2.2.2.1.1 x.2.2.2.2.2.1.2.1 x.2.2.2.2.2.1.2.2, .slice x.2.2.2.2.2.2.1.1 x.2.2.2.2.2.2.1.2.1 x.2.2.2.2.2.2.1.2.2, .slice x.2.2.2.2.2.2.2.1.1 x.2.2.2.2.2.2.2.1.2.1 x.2.2.2.2.2.2.2.1.2.2, .slice x.2.2.2.2.2.2.2.2.1 x.2.2.2.2.2.2.2.2.2.1 x.2.2.2.2.2.2.2.2.2.2])) : OwnOUa w' base v' (l ++ [x]) := by
 have := OwnV.app (T := 43) (k := 9) (rows := l.map cellsOUa) (r := cellsOUa x) (cellsO_lenUa l) rfl (by rw [List.length_map]; rw [strOf h0] at h; exact h)
 unfold OwnOUa; rw [List.map_append]; exact this
theorem OwnOUa.one (l : List (OvUa)) : ∀ u ∈ (l.map cellsOUa).flatten, u.oneCell' = true := fun u hu => by
 obtain ⟨r, hr, hu⟩ := List.mem_flatten.1 hu
 obtain ⟨x, _, rfl⟩ := List.mem_map.1 hr
 simp only [List.mem_cons, List.not_mem_nil, or_false] at hu
 rcases hu with rfl | rfl | rfl | rfl | rfl | rfl | rfl | rfl | rfl <;> rfl
theorem infoOUa : (Tryz.prog.info? 43).map (fun i => (i.zero, i.size, i.bytes)) = some (some (.agg #[.string ⟨#[]⟩, .string ⟨#[]⟩, .int .i64 0, .slice none 0 0, .slice none 0 0, .slice none 0 0, .slice none 0 0, .slice none 0 0, .slice none 0 0]), 9, 184) := by kernel_rfl
theorem HoldV.flatcUa {k : Nat} {w : World} {a : Option Addr} {n c : Nat} {rows : List Rw} (hk : 0 < k) (hr : ∀ r ∈ rows, r.length = k) (h : HoldV k w (.slice a n c) rows) (h0 : 0 < rows.length) : ∃ b o, a = some ⟨b, o, none⟩ ∧ b < w.heap.size ∧ ∀ (j : Nat) u, rows.flatten[j]? = some u → w.cell? ⟨b, o + j, none⟩ = some u := by
 obtain ⟨a', c', b, o, e, _, ha, hcell⟩ := h
 simp only [Value.slice.injEq] at e
 obtain ⟨rfl, rfl, rfl⟩ := e
 refine ⟨b, o, (ha h0).1, (ha h0).2, fun m u hu => ?_⟩
 obtain ⟨j, i, r, rfl, hi, hj, hr⟩ := flat_get k hk rows hr m u hu
 rw [← Nat.add_assoc]
 exact hcell j r hj i u hi hr
theorem own_emptyOUa (w : World) (base : Nat) (hb : base ≤ w.heap.size) : OwnOUa (w.alloc (.cells #[] 43)) base (.slice (some ⟨w.heap.size, 0, none⟩) 0 0) [] :=
 ⟨fun r hr => by simp at hr, rfl, .inr ⟨w.heap.size, 0, #[], rfl, hb, World.alloc_heap_new w _, Nat.le_refl _, Nat.zero_le _, rfl, rfl⟩⟩
set_option maxRecDepth 100000 in
set_option maxHeartbeats 4000000 in
theorem cloneO_anyUa (v : Value) (l : List (OvUa)) (hl : l.length ≤ 90000) (w : World) (h : HoldOUa w v l) : Calls Tryz.prog 108 #[v] w fun e w' => ∃ v', e = .returned v' ∧ OwnOUa w' w.heap.size v' l ∧ Below w.heap.size w w' := by
 have hh := h
 obtain ⟨a, c, b, o, rfl, hc, ha, hcell⟩ := h.parts
 obtain ⟨i0, hi, hz0, hz1, hz2'⟩ := info_parts infoOUa
 have HB1 := Lib.hid ((Below.refl w.heap.size w).alloc (Nat.le_refl _) (.cells #[] 43))
 have HE := Lib.hid (own_emptyOUa w w.heap.size (Nat.le_refl _))
 have HD := Lib.hid (And.intro (flat_len 9 (l.map cellsOUa) (cellsO_lenUa l)) (OwnOUa.one l))
 have HF : Hid (0 < l.length → ∃ b o, a = some ⟨b, o, none⟩ ∧ b < w.heap.size ∧ ∀ (j : Nat) u, (l.map cellsOUa).flatten[j]? = some u → w.cell? ⟨b, o + j, none⟩ = some u) := Lib.hid (fun h0 => HoldV.flatcUa (by omega) (cellsO_lenUa l) hh (by rw [List.length_map]; exact h0))
 obtain ⟨n, hN⟩ : ∃ n, l.length = n := ⟨_, rfl⟩
 rw [List.length_map] at HD
 rw [hN] at hc ha hl HF HD ⊢
 have HN := Lib.hid hN
 clear hcell hN h hh ha
 have hq : ∀ (w : World) (a : Option Addr) (n c n' c' : Nat), (binOp .eql 22 (.slice a n c) (.slice none n' c')).run Tryz.prog w = .ok (.bool a.isNone) w := fun w a n c n' c' => Lib.run_eql_slice_nil w _ _ a n c n' c' Tryz.underlying22
 cases a with
 | none =>
   have hn : n = 0 := by
     by_cases g : 0 < n
     · obtain ⟨_, _, e, _⟩ := HF.out g; cases e
     · omega
   have HL : Hid (l = []) := Lib.hid (List.eq_nil_of_length_eq_zero (by rw [HN.out, hn]))
   subst hn
   go_enter Tryz.func108, Tryz.ntmps108
   go_wp2
   go_ret
   exact ⟨_, rfl, by rw [HL.out]; exact OwnV.nil _ _ _ _, Below.refl _ _⟩
 | some A =>
   have HNW : Hid (∀ (j : Nat) u, (l.map cellsOUa).flatten[j]? = some u → (w.alloc (.cells #[] 43)).cell? (A.add j) = some u) := Lib.hid (fun j u hu => by
     have hj : j < n * 9 := by rw [← HD.out.1]; exact (List.getElem?_eq_some_iff.1 hu).1
     obtain ⟨b, o, e, hbw, hcl⟩ := HF.out (by omega)
     cases e
     rw [Addr.add_lit]
     exact (HB1.out.cell (p := ⟨b, o + j, none⟩) hbw).trans (hcl j u hu))
   go_enter Tryz.func108, Tryz.ntmps108
   go_wp2_with (at_builtin; refine wpList_append_own _ rfl _ _ 22 rfl w.heap.size 43 i0 _ 9 184 Tryz.underlying22 hi hz0 hz1 hz2' rfl (by decide) _ 0 [] rfl HE.out.2 A n _ (l.map cellsOUa).flatten rfl HD.out.1 HNW.out HD.out.2 (by unfold maxLen; omega) (by omega) (by simp) ?_)
   intro v' w3 hown' hgrow _
   have HO : Hid (OwnOUa w3 w.heap.size v' l) := Lib.hid ⟨cellsO_lenUa l, by rw [List.length_map, HN.out]; simpa using hown'⟩
   have HB : Hid (Below w.heap.size w w3) := Lib.hid (HB1.out.grown hgrow (by simp) (fun k hk => by simp [Value.ownBlock] at hk; omega))
   clear hown' hgrow
   go_wp2
   go_ret
   exact ⟨_, rfl, HO.out, HB.out⟩
def PredOUa (g : Nat) (lb : Array Value) (p : OvUa → Bool) (w : World) : Prop :=
 ∀ W x, Below w.heap.size w W → Calls Tryz.prog g (#[aggOUa x] ++ lb) W fun e w' => e = .returned (.bool (p x)) ∧ Below W.heap.size W w'
def idxOUa (l : List (OvUa)) (p : OvUa → Bool) : Int := match l.findIdx? p with
 | some k => (k : Int)
 | none => -1
theorem idxO_hitUa {l : List (OvUa)} {p : OvUa → Bool} {k : Nat} {x : OvUa} (hx : l[k]? = some x) (hp : p x = true) (hb : ∀ (j : Nat) y, j < k → l[j]? = some y → p y = false) : l.findIdx? p = some k := by
 rw [List.findIdx?_eq_some_iff_getElem]
 obtain ⟨hk, e⟩ := List.getElem?_eq_some_iff.1 hx
 exact ⟨hk, by rw [e]; exact hp, fun j hj => by rw [hb j _ hj (List.getElem?_eq_getElem (by omega))]; simp⟩
theorem idxO_missUa {l : List (OvUa)} {p : OvUa → Bool} (hb : ∀ (j : Nat) y, l[j]? = some y → p y = false) : l.findIdx? p = none := by
 rw [List.findIdx?_eq_none_iff]
 intro y hy
 obtain ⟨j, hj⟩ := List.mem_iff_getElem?.1 hy
 exact hb j y hj
set_option maxRecDepth 100000 in
set_option maxHeartbeats 4000000 in
theorem idxO_anyUa (g : Nat) (lb : Array Value) (eg : ∀ args w, (callFunc g args).run Tryz.prog w = .ok (.enter g args) w) (p : OvUa → Bool) (v : Value) (l : List (OvUa)) (hl : l.length ≤ 90000) (w : World) (h : HoldOUa w v l) (hp : PredOUa g lb p w) :
   Calls Tryz.prog 109 #[v, .func (.func g) #[] lb] w fun e w' => e = .returned (.int .i64 (idxOUa l p)) ∧ Below w.heap.size w w' := by
 obtain ⟨a, c, b, o, rfl, hc, ha, hcell⟩ := h.parts
 have HC := Lib.hid hcell
 obtain ⟨Z, HZ⟩ : ∃ Z, Hid (idxOUa l p = Z) := ⟨_, rfl⟩
 rw [HZ.out]
 have HP := Lib.hid hp
 obtain ⟨n, hN⟩ : ∃ n, l.length = n := ⟨_, rfl⟩
 rw [hN] at hc ha hl ⊢
 have HN := Lib.hid hN
 clear hcell hp hN h
 go_enter Tryz.func109, Tryz.ntmps109
 go_wp2
 go_loopw [8] (fun i wr => ∃ k : Nat, k ≤ n ∧ i = .int .i64 k ∧ Hid (∀ (j : Nat) y, j < k → l[j]? = some y → p y = false) ∧ Hid (Below w.heap.size w wr)) (fun i _ => n - (intOf i).toNat)
 case atStart => exact ⟨0, by omega, rfl, Lib.hid (fun j y hj => by omega), Lib.hid (Below.refl _ _)⟩
 case round =>
   obtain ⟨k, hk, rfl, H, HB⟩ := hrel
   by_cases hlt : k < n
   · obtain ⟨rfl, hbw⟩ := ha (by omega)
     obtain ⟨⟨a0, a1, a2, ⟨a3a, a3n, a3c⟩, ⟨a4a, a4n, a4c⟩, ⟨a5a, a5n, a5c⟩, ⟨a6a, a6n, a6c⟩, ⟨a7a, a7n, a7c⟩, ⟨a8a, a8n, a8c⟩⟩, hx⟩ : ∃ x, l[k]? = some x := ⟨_, List.getElem?_eq_getElem (by rw [HN.out]; exact hlt)⟩
     obtain ⟨c0, c1, c2, c3, c4, c5, c6, c7, c8⟩ := HC.out k (a0, a1, a2, (a3a, a3n, a3c), (a4a, a4n, a4c), (a5a, a5n, a5c), (a6a, a6n, a6c), (a7a, a7n, a7c), (a8a, a8n, a8c)) hx
     dsimp only at c0 c1 c2 c3 c4 c5 c6 c7 c8
     rw [← HB.out.cell (p := ⟨b, o + k * 9, none⟩) hbw] at c0
     rw [← HB.out.cell (p := ⟨b, o + k * 9 + 1, none⟩) hbw] at c1
     rw [← HB.out.cell (p := ⟨b, o + k * 9 + 2, none⟩) hbw] at c2
     rw [← HB.out.cell (p := ⟨b, o + k * 9 + 3, none⟩) hbw] at c3
     rw [← HB.out.cell (p := ⟨b, o + k * 9 + 4, none⟩) hbw] at c4
     rw [← HB.out.cell (p := ⟨b, o + k * 9 + 5, none⟩) hbw] at c5
     rw [← HB.out.cell (p := ⟨b, o + k * 9 + 6, none⟩) hbw] at c6
     rw [← HB.out.cell (p := ⟨b, o + k * 9 + 7, none⟩) hbw] at c7
     rw [← HB.out.cell (p := ⟨b, o + k * 9 + 8, none⟩) hbw] at c8
     have hcall := HP.out wr (a0, a1, a2, (a3a, a3n, a3c), (a4a, a4n, a4c), (a5a, a5n, a5c), (a6a, a6n, a6c), (a7a, a7n, a7c), (a8a, a8n, a8c)) HB.out
     unfold aggOUa at hcall
     dsimp only at hcall
     have HX := Lib.hid hx
     clear hx
     cases hq : p (a0, a1, a2, (a3a, a3n, a3c), (a4a, a4n, a4c), (a5a, a5n, a5c), (a6a, a6n, a6c), (a7a, a7n, a7c), (a8a, a8n, a8c))
     · rw [hq] at hcall
       have HK : Hid (∀ (j : Nat) y, j < k + 1 → l[j]? = some y → p y = false) := Lib.hid (fun j y hj hy => by
         by_cases e : j = k
         · subst e
           rw [HX.out] at hy; cases hy
           exact hq
         · exact H.out j y (by omega) hy)
       clear hq H
       generalize bsT a0 = X0 at *
       go_wp2_with (go_at_fn g; refine hcall.mono ?_; rintro e w1 ⟨rfl, hb1⟩; have HB1 := Lib.hid (HB.out.trans (hb1.mono HB.out.size)); clear hb1)
       go_roundw
       case rel => exact ⟨k + 1, by omega, by go_num, HK, HB1⟩
       case measure => simp [intOf]; omega
     · rw [hq] at hcall
       have HF : Hid ((k : Int) = Z) := Lib.hid (by rw [← HZ.out, idxOUa, idxO_hitUa HX.out hq H.out])
       clear hq H
       generalize bsT a0 = X0 at *
       go_wp2_with (go_at_fn g; refine hcall.mono ?_; rintro e w1 ⟨rfl, hb1⟩; have HB1 := Lib.hid (HB.out.trans (hb1.mono HB.out.size)); clear hb1)
       go_ret
       exact ⟨reti HF.out, HB1.out⟩
   · obtain rfl : k = n := by omega
     have HF : Hid ((-1 : Int) = Z) := Lib.hid (by rw [← HZ.out, idxOUa, idxO_missUa (fun j y hy => H.out j y (by have := (List.getElem?_eq_some_iff.1 hy).1; rw [HN.out] at this; exact this) hy)])
     clear hlt H
     go_wp2
     go_ret
     exact ⟨reti HF.out, HB.out⟩
end Go.Proofs.YtnnagboeimeiiaaGreatDoor
namespace Go.Proofs.YtnnagboeimeiiaaGreatDoor
open Go.RowKit Go.Lib
theorem ins_takeUa {A Y : List Value} {p : Nat} (h : p + 9 ≤ A.length) : (A.take (p + 9) ++ Y).take p = A.take p := by
 rw [List.take_append_of_le_length (by rw [List.length_take]; omega), List.take_take, show min p (p + 9) = p by omega]
theorem ins_dropUa {A Y : List Value} {p : Nat} (h : p + 9 ≤ A.length) : (A.take (p + 9) ++ Y).drop (p + 9) = Y := List.drop_left' (by rw [List.length_take]; omega)
def InsPostUa (base n i : Nat) (v : Value) (xs vs : List Value) (w : World) (e : Ending) (w' : World) : Prop :=
 ∃ v', e = .returned v' ∧ w'.ownsRow base 43 9 v' (n + 1) (xs.take (i * 9) ++ vs ++ xs.drop (i * 9)) ∧ w.grownBy w' v.ownBlock
set_option maxRecDepth 100000 in
set_option maxHeartbeats 4000000 in
theorem ins_endUa (base n : Nat) (v : Value) (xs vs : List Value) (w : World) (hown : w.ownsRow base 43 9 v n xs) (hn : n ≤ 90000) (vb : Nat) (hvl : vs.length = 9) (hvs : ∀ j u, vs[j]? = some u → w.cell? ⟨vb, 0 + j, none⟩ = some u) (h1v : ∀ u ∈ vs, u.oneCell' = true) (hbase : base ≤ w.heap.size) :
   Calls Tryz.prog 111 #[v, .int .i64 n, .slice (some ⟨vb, 0, none⟩) 1 1] w fun e w' => ∃ v', e = .returned v' ∧ w'.ownsRow base 43 9 v' (n + 1) (xs ++ vs) ∧ w.grownBy w' v.ownBlock := by
 obtain ⟨i0, hi, hz0, hz1, hz2'⟩ := info_parts infoOUa
 obtain ⟨a, c, rfl⟩ : ∃ a c, v = .slice a n c := by
   rcases hown.2 with ⟨rfl, h⟩ | ⟨g, cap, cur, rfl, _⟩
   · exact ⟨none, 0, by rw [h]⟩
   · exact ⟨_, _, rfl⟩
 have hnc : n ≤ c := by
   rcases hown.2 with ⟨h, h0⟩ | ⟨g, cap, cur, h, _, _, h1, _⟩
   · omega
   · simp only [Value.slice.injEq] at h; omega
 have hnone : a = none → n = 0 ∧ c = 0 := fun e => by
   subst e
   rcases hown.2 with ⟨h, h0⟩ | ⟨g, cap, cur, h, _⟩
   · simp only [Value.slice.injEq] at h; exact ⟨h0, h.2.2⟩
   · simp at h
 have hsp : ∀ A, a = some A → ∃ g, A = ⟨g, 0, none⟩ := fun A e => by
   subst e
   rcases hown.2 with ⟨h, h0⟩ | ⟨g, cap, cur, h, _⟩
   · simp at h
   · simp only [Value.slice.injEq, Option.some.injEq] at h; exact ⟨g, h.1⟩
 have HO := Lib.hid hown
 have HV := Lib.hid hvs
 have HV1 := Lib.hid h1v
 clear hown hvs h1v
 go_enter Tryz.func111, Tryz.ntmps111
 cases a with
 | none =>
   obtain ⟨rfl, rfl⟩ := hnone rfl
   clear hnone hsp
   go_wp2_with (at_builtin; refine wpList_append_own _ rfl _ _ 22 rfl base 43 i0 _ 9 184 Tryz.underlying22 hi hz0 hz1 hz2' rfl (by decide) _ _ _ rfl HO.out ⟨vb, 0, none⟩ 1 1 vs rfl (by omega) (fun j u hj => by rw [Addr.add_lit]; exact HV.out j u hj) HV1.out (by unfold maxLen; omega) (by omega) hbase ?_)
   intro v' w3 hown' hgrow _
   have H1 := Lib.hid hown'
   have H2 := Lib.hid hgrow
   clear hown' hgrow
   go_wp2
   go_ret
   exact ⟨_, rfl, H1.out, H2.out⟩
 | some A =>
   obtain ⟨g, rfl⟩ := hsp A rfl
   clear hnone hsp
   go_wp2_with (at_builtin; refine wpList_append_own _ rfl _ _ 22 rfl base 43 i0 _ 9 184 Tryz.underlying22 hi hz0 hz1 hz2' rfl (by decide) _ _ _ rfl HO.out ⟨vb, 0, none⟩ 1 1 vs rfl (by omega) (fun j u hj => by rw [Addr.add_lit]; exact HV.out j u hj) HV1.out (by unfold maxLen; omega) (by omega) hbase ?_)
   all_goals
     intro v' w3 hown' hgrow _
     have H1 := Lib.hid hown'
     have H2 := Lib.hid hgrow
     clear hown' hgrow
     go_wp2
     go_ret
     exact ⟨_, rfl, H1.out, H2.out⟩
set_option maxRecDepth 100000 in
set_option maxHeartbeats 4000000 in
theorem ins_roomUa (base n c g : Nat) (cur : Array Value) (xs vs : List Value) (w : World) (hbg : base ≤ g) (hg : w.heap[g]? = some (.cells cur 43 (0, 0))) (hcm : c ≤ maxLen) (hcs : cur.size = c * 9) (hxs : cur.toList.take (n * 9) = xs) (hxl : xs.length = n * 9) (h1 : ∀ u ∈ xs, u.oneCell' = true) (i : Nat) (hi : i < n) (hroom : n + 1 ≤ c) (vb : Nat) (vt : TypeId) (hvl : vs.length = 9) (hv : w.heap[vb]? = some (.cells vs.toArray vt (0, 0))) (h1v : ∀ u ∈ vs, u.oneCell' = true) (hne : vb ≠ g) :
   Calls Tryz.prog 111 #[.slice (some ⟨g, 0, none⟩) n c, .int .i64 i, .slice (some ⟨vb, 0, none⟩) 1 1] w fun e w' => ∃ v', e = .returned v' ∧ w'.ownsRow base 43 9 v' (n + 1) (xs.take (i * 9) ++ vs ++ xs.drop (i * 9)) ∧ w.grownBy w' (some g) := by
 obtain ⟨i0, hi0, hz0, hz1, hz2'⟩ := info_parts infoOUa
 have hsz : (Tryz.prog.info? 43).map (·.size) = some 9 := by rw [hi0]; simp [hz1]
 have hgl : g < w.heap.size := (Array.getElem?_eq_some_iff.1 hg).1
 have hov : ∀ lb cb, (callFunc 152 #[.slice (some ⟨vb, 0, none⟩) 1 1, .slice (some ⟨g, (i + 1) * 9, none⟩) lb cb]).run Tryz.prog w = .ok (.value (.bool false)) w := fun lb cb => by
   rw [run_callFunc_extern Tryz.func152 (by kernel_rfl) (by kernel_rfl) (by kernel_rfl) (e := Extern.SlicesOverlaps.overlaps #[22, 22] #[4]) (by kernel_rfl),
     Lib.run_overlaps_apart w 22 4 43 Tryz.underlying22 9 Tryz.sizeOf43 ⟨vb, 0, none⟩ ⟨g, (i + 1) * 9, none⟩ 1 1 lb cb hne vt 43 vs.toArray.size cur.size (by simp [World.shape?, hv]) (by simp [World.shape?, hg]) (by omega) (by simp [World.frozen?, hv]) (by simp [World.frozen?, hv])]
   rfl
 have hdl : (xs.drop (i * 9)).length = (n - i) * 9 := by rw [List.length_drop, hxl]; omega
 have hAl : cur.toList.length = c * 9 := by rw [Array.length_toList, hcs]
 obtain ⟨R1, hR1⟩ : ∃ R1 : Array Value, R1 = (cur.toList.take ((i + 1) * 9) ++ xs.drop (i * 9) ++ cur.toList.drop ((i + 1) * 9 + (xs.drop (i * 9)).length)).toArray := ⟨_, rfl⟩
 obtain ⟨R2, hR2⟩ : ∃ R2 : Array Value, R2 = (R1.toList.take (i * 9) ++ vs ++ R1.toList.drop (i * 9 + vs.length)).toArray := ⟨_, rfl⟩
 have hR1l : R1.toList = cur.toList.take (i * 9 + 9) ++ (xs.drop (i * 9) ++ cur.toList.drop ((n + 1) * 9)) := by
   rw [hR1, hdl, show (i + 1) * 9 + (n - i) * 9 = (n + 1) * 9 by omega, show (i + 1) * 9 = i * 9 + 9 by omega]; simp
 have hR2l : R2.toList = (xs.take (i * 9) ++ vs ++ xs.drop (i * 9)) ++ cur.toList.drop ((n + 1) * 9) := by
   rw [hR2, List.toList_toArray, hR1l, hvl, ins_takeUa (by omega), ins_dropUa (by omega), ← hxs, List.take_take, show min (i * 9) (n * 9) = i * 9 by omega]
   simp
 have hR2s : R2.size = c * 9 := by
   rw [← Array.length_toList, hR2l]; simp only [List.length_append, List.length_take, List.length_drop, hvl, hxl, hAl]; omega
 have hR1s : R1.size = c * 9 := by
   rw [← Array.length_toList, hR1l]; simp only [List.length_append, List.length_take, List.length_drop, hxl, hAl]; omega
 have hcp1 : ∀ ty dc sc, (Builtin.copy_ #[22, 22] ty #[.slice (some ⟨g, (i + 1) * 9, none⟩) (n - i) dc, .slice (some ⟨g, i * 9, none⟩) (n + 1 - i) sc]).run Tryz.prog w.drew = .ok (goInt (n - i : Nat)) (w.drew.setRow g R1) := fun ty dc sc => by
   rw [hR1]
   exact run_copy_rowK Tryz.prog w.drew _ _ ty 43 g ((i + 1) * 9) (n - i) dc ⟨g, i * 9, none⟩ (n + 1 - i) sc cur 43 (xs.drop (i * 9)) 9 (n - i) Tryz.underlying22 hsz hg (by simp only [Nat.min_def]; split <;> omega) hdl
     (fun j u hj => by
       rw [Addr.add_lit]
       show w.cell? _ = _
       rw [cellRow w g _ cur 43 (0, 0) hg]
       rw [List.getElem?_drop, ← hxs, List.getElem?_take] at hj
       split at hj
       · rw [← Array.getElem?_toList]; exact hj
       · cases hj) (by rw [hdl, hcs]; omega) (fun u hu => h1 u (List.mem_of_mem_drop hu))
 obtain ⟨W1, hW1⟩ : ∃ W1, W1 = w.drew.setRow g R1 := ⟨_, rfl⟩
 have hW1g : W1.heap[g]? = some (.cells R1 43 (0, 0)) := by rw [hW1]; exact setRow_heap w.drew g cur R1 _ _ hg
 have hW1v : W1.heap[vb]? = some (.cells vs.toArray vt (0, 0)) := by rw [hW1, setRow_other w.drew g vb R1 hne]; exact hv
 have hcp2 : ∀ ty dc, (Builtin.copy_ #[22, 22] ty #[.slice (some ⟨g, i * 9, none⟩) (n + 1 - i) dc, .slice (some ⟨vb, 0, none⟩) 1 1]).run Tryz.prog W1 = .ok (goInt (1 : Nat)) (W1.setRow g R2) := fun ty dc => by
   rw [hR2]
   exact run_copy_rowK Tryz.prog W1 _ _ ty 43 g (i * 9) (n + 1 - i) dc ⟨vb, 0, none⟩ 1 1 R1 43 vs 9 1 Tryz.underlying22 hsz hW1g (by simp only [Nat.min_def]; split <;> omega) (by rw [hvl])
     (fun j u hj => by
       rw [Addr.add_lit, cellRow W1 vb _ vs.toArray vt (0, 0) hW1v]
       simpa using hj) (by rw [hvl, hR1s]; omega) h1v
 rw [← hW1] at hcp1
 have HE : Hid ((W1.setRow g R2).ownsRow base 43 9 (.slice (some ⟨g, 0, none⟩) (n + 1) c) (n + 1) (xs.take (i * 9) ++ vs ++ xs.drop (i * 9)) ∧ w.grownBy (W1.setRow g R2) (some g)) := Lib.hid (by
   refine ⟨⟨?_, .inr ⟨g, c, R2, rfl, hbg, setRow_heap W1 g R1 R2 _ _ hW1g, hroom, hcm, hR2s, ?_⟩⟩, ?_⟩
   · simp only [List.length_append, List.length_take, List.length_drop, hvl, hxl]; omega
   · rw [hR2l]
     exact List.take_left' (by simp only [List.length_append, List.length_take, List.length_drop, hvl, hxl]; omega)
   · subst hW1
     refine ⟨rfl, rfl, rfl, by simp, fun k hk hne2 => ?_⟩
     have : k ≠ g := fun e => hne2 (by rw [e])
     rw [setRow_other _ g k _ this, setRow_other _ g k _ this]; rfl)
 unfold maxLen at hcm
 clear hW1 hR1 hR2 hR1l hR2l hR2s hR1s hW1g hW1v hdl hAl hxs hxl hcs hsz hz0 hz1 hz2' hg hv
 have hz2 : ¬ ((i : Int) = (n : Int)) := by omega
 have hw1 : IntKind.i64.wrap ((i : Int) + 1) = (i : Int) + 1 := by rw [IntKind.wrap_i64]; omega
 have hw2 : IntKind.i64.wrap ((n : Int) + 1) = (n : Int) + 1 := by rw [IntKind.wrap_i64]; omega
 have htn : ((i : Int) + 1).toNat = i + 1 := by omega
 have htn2 : ((n : Int) + 1).toNat = n + 1 := by omega
 have hb2 : ¬ (c = i + 1) := by omega
 have hb4 : ¬ (c = i) := by omega
 have hin : i ≤ n := by omega
 have hb3 : (i : Int) ≤ (n : Int) + 1 := by omega
 have hb5 : ¬ ((c : Int) < (n : Int) + 1) := by omega
 have hb1 : (0 : Int) ≤ (i : Int) + 1 := by omega
 have mixed : Tryz.prog.follows Departure.mixedOrders = true := by kernel_rfl
 go_enter Tryz.func111, Tryz.ntmps111
 go_wp2_with (simp only [hov])
 go_region_law_o (refine step_copy_runI rfl _ _ 22 22 rfl _ _ (by simp [Act.eval, Act.put]) (by simp [Act.eval, Act.put]) (hcp1 _ _ _) ?_)
 go_wp2_with (at_builtin; refine wpList_copy_runI _ rfl _ _ 22 22 rfl _ _ rfl rfl (hcp2 _ _) ?_)
 go_ret
 exact ⟨_, rfl, HE.out.1, HE.out.2⟩
set_option maxRecDepth 100000 in
set_option maxHeartbeats 4000000 in
theorem ins_growUa (base n c g : Nat) (cur : Array Value) (xs vs : List Value) (w : World) (hbw : base ≤ w.heap.size) (hg : w.heap[g]? = some (.cells cur 43 (0, 0))) (hxs : cur.toList.take (n * 9) = xs) (hxl : xs.length = n * 9) (h1 : ∀ u ∈ xs, u.oneCell' = true) (i : Nat) (hi : i < n) (hn9 : n ≤ 90000) (hnc : n ≤ c) (hroom : c < n + 1) (vb : Nat) (vt : TypeId) (hvl : vs.length = 9) (hv : w.heap[vb]? = some (.cells vs.toArray vt (0, 0))) (h1v : ∀ u ∈ vs, u.oneCell' = true) :
   Calls Tryz.prog 111 #[.slice (some ⟨g, 0, none⟩) n c, .int .i64 i, .slice (some ⟨vb, 0, none⟩) 1 1] w fun e w' => ∃ v', e = .returned v' ∧ w'.ownsRow base 43 9 v' (n + 1) (xs.take (i * 9) ++ vs ++ xs.drop (i * 9)) ∧ w.grownBy w' (some g) := by
 obtain ⟨i0, hi0, hz0, hz1, hz2'⟩ := info_parts infoOUa
 have hsz : (Tryz.prog.info? 43).map (·.size) = some 9 := by rw [hi0]; simp [hz1]
 have hgl : g < w.heap.size := (Array.getElem?_eq_some_iff.1 hg).1
 have hvl2 : vb < w.heap.size := (Array.getElem?_eq_some_iff.1 hv).1
 have hdl : (xs.drop (i * 9)).length = (n - i) * 9 := by rw [List.length_drop, hxl]; omega
 have htl : (xs.take (i * 9)).length = i * 9 := by rw [List.length_take, hxl]; omega
 have hcell : ∀ (j : Nat) u, xs[j]? = some u → w.cell? ⟨g, j, none⟩ = some u := fun j u hj => by
   rw [cellRow w g _ cur 43 (0, 0) hg]
   rw [← hxs, List.getElem?_take] at hj
   split at hj
   · rw [← Array.getElem?_toList]; exact hj
   · cases hj
 have hkk : (n : Int) + 1 - (i : Int) = ((n + 1 - i : Nat) : Int) := by omega
 have hik : i + (n + 1 - i) = n + 1 := by omega
 have hold : (Builtin.firstCells i0.size i (.slice (some ⟨g, 0, none⟩) i c)).run Tryz.prog w.drew = .ok (xs.take (i * 9)).toArray w.drew := by
   rw [hz1]
   exact run_firstCells_some w.drew 9 i ⟨g, 0, none⟩ i c (xs.take (i * 9)) htl (fun j u hj => by
     rw [Addr.add_lit, Nat.zero_add]
     rw [List.getElem?_take] at hj
     split at hj
     · exact hcell j u hj
     · cases hj)
 obtain ⟨G, hG⟩ : ∃ G, G = grownCap w (n + 1) c 43 := ⟨_, rfl⟩
 obtain ⟨ROW, hROW⟩ : ∃ ROW : Array Value, ROW = (xs.take (i * 9)).toArray ++ Builtin.zeroCells (Value.agg #[Value.string { data := #[] }, Value.string { data := #[] }, Value.int .i64 0, Value.slice none 0 0, Value.slice none 0 0, Value.slice none 0 0, Value.slice none 0 0, Value.slice none 0 0, Value.slice none 0 0]).cells (n + 1 - i) ++ Builtin.zeroCells (Value.agg #[Value.string { data := #[] }, Value.string { data := #[] }, Value.int .i64 0, Value.slice none 0 0, Value.slice none 0 0, Value.slice none 0 0, Value.slice none 0 0, Value.slice none 0 0, Value.slice none 0 0]).cells (G - (n + 1)) := ⟨_, rfl⟩
 have hrz : ∀ ty, (Builtin.append_ #[22, 3] ty #[.slice (some ⟨g, 0, none⟩) i c, .int .i64 ((n : Int) + 1 - (i : Int))]).run Tryz.prog w =
     .ok (.slice (some ⟨w.heap.size, 0, none⟩) (n + 1) G) (w.drew.alloc (.cells ROW 43)) := fun ty => by
   have h := Lib.run_append_grow_zeros w 22 3 ty 43 i0 _ .i64 .i64 Tryz.underlying22 Tryz.underlying3 hi0 hz0 (some ⟨g, 0, none⟩) i c (xs.take (i * 9)) hold (n + 1 - i) (by omega) (by omega) (by omega) (by omega) (by rw [hz2']; omega) (by rw [hz2', hik]; exact growslice_fits hroom (by omega))
   rw [hik] at h
   rw [hkk, hG, hROW, hG]
   exact h
 have hGn : n + 1 ≤ G := by rw [hG]; exact grownCap_ge w _ _ _
 have hG63 : G ≤ maxLen := by rw [hG]; exact grownCap_le_maxLen w (n + 1) c _ (by unfold maxLen; omega)
 have hRs : ROW.size = G * 9 := by
   rw [hROW, Array.size_append, Array.size_append, size_zeroCells, size_zeroCells, show (Value.agg #[Value.string { data := #[] }, Value.string { data := #[] }, Value.int .i64 0, Value.slice none 0 0, Value.slice none 0 0, Value.slice none 0 0, Value.slice none 0 0, Value.slice none 0 0, Value.slice none 0 0]).cells.size = 9 from rfl, List.size_toArray, htl]; omega
 have hRl : ROW.toList.length = G * 9 := by rw [Array.length_toList, hRs]
 have hRt : ROW.toList.take (i * 9) = xs.take (i * 9) := by
   rw [hROW, Array.toList_append, Array.toList_append, List.append_assoc]
   exact List.take_left' htl
 obtain ⟨R1, hR1⟩ : ∃ R1 : Array Value, R1 = (ROW.toList.take (i * 9) ++ vs ++ ROW.toList.drop (i * 9 + vs.length)).toArray := ⟨_, rfl⟩
 obtain ⟨R2, hR2⟩ : ∃ R2 : Array Value, R2 = (R1.toList.take ((i + 1) * 9) ++ xs.drop (i * 9) ++ R1.toList.drop ((i + 1) * 9 + (xs.drop (i * 9)).length)).toArray := ⟨_, rfl⟩
 have hR1t : R1.toList.take ((i + 1) * 9) = xs.take (i * 9) ++ vs := by
   rw [hR1, List.toList_toArray, hRt]
   exact List.take_left' (by rw [List.length_append, htl, hvl]; omega)
 have hR1s : R1.size = G * 9 := by
   rw [← Array.length_toList, hR1]; simp only [List.length_append, List.length_take, List.length_drop, hvl, hRl]; omega
 have hR1l : R1.toList.length = G * 9 := by rw [Array.length_toList, hR1s]
 have hR2s : R2.size = G * 9 := by
   rw [← Array.length_toList, hR2]; simp only [List.length_append, List.length_take, List.length_drop, hxl, hR1l]; omega
 have hR2t : R2.toList.take ((n + 1) * 9) = xs.take (i * 9) ++ vs ++ xs.drop (i * 9) := by
   rw [hR2, List.toList_toArray, hR1t]
   exact List.take_left' (by simp only [List.length_append, List.length_take, List.length_drop, hvl, hxl]; omega)
 obtain ⟨W1, hW1⟩ : ∃ W1, W1 = w.drew.alloc (.cells ROW 43) := ⟨_, rfl⟩
 rw [← hW1] at hrz
 obtain ⟨N, hN⟩ : ∃ N, N = w.heap.size := ⟨_, rfl⟩
 have hW1N : W1.heap[N]? = some (.cells ROW 43 (0, 0)) := by rw [hW1, hN]; exact heap_alloc_new w.drew _
 have hW1o : ∀ k, k < w.heap.size → W1.heap[k]? = w.heap[k]? := fun k hk => by rw [hW1]; exact heap_alloc_old w.drew _ hk
 have hcpA : ∀ ty dc, (Builtin.copy_ #[22, 22] ty #[.slice (some ⟨N, i * 9, none⟩) (n + 1 - i) dc, .slice (some ⟨vb, 0, none⟩) 1 1]).run Tryz.prog W1 = .ok (goInt (1 : Nat)) (W1.setRow N R1) := fun ty dc => by
   rw [hR1]
   exact run_copy_rowK Tryz.prog W1 _ _ ty 43 N (i * 9) (n + 1 - i) dc ⟨vb, 0, none⟩ 1 1 ROW 43 vs 9 1 Tryz.underlying22 hsz hW1N (by simp only [Nat.min_def]; split <;> omega) (by rw [hvl])
     (fun j u hj => by
       rw [Addr.add_lit, cellRow W1 vb _ vs.toArray vt (0, 0) ((hW1o vb hvl2).trans hv)]
       simpa using hj) (by rw [hvl, hRs]; omega) h1v
 obtain ⟨W2, hW2⟩ : ∃ W2, W2 = W1.setRow N R1 := ⟨_, rfl⟩
 rw [← hW2] at hcpA
 have hW2N : W2.heap[N]? = some (.cells R1 43 (0, 0)) := by rw [hW2]; exact setRow_heap W1 N ROW R1 _ _ hW1N
 have hW2o : ∀ k, k < w.heap.size → W2.heap[k]? = w.heap[k]? := fun k hk => by rw [hW2, setRow_other W1 N k R1 (by omega)]; exact hW1o k hk
 have hcpB : ∀ ty dc sc, (Builtin.copy_ #[22, 22] ty #[.slice (some ⟨N, (i + 1) * 9, none⟩) (n - i) dc, .slice (some ⟨g, i * 9, none⟩) (n - i) sc]).run Tryz.prog W2.drew = .ok (goInt (n - i : Nat)) (W2.drew.setRow N R2) := fun ty dc sc => by
   rw [hR2]
   exact run_copy_rowK Tryz.prog W2.drew _ _ ty 43 N ((i + 1) * 9) (n - i) dc ⟨g, i * 9, none⟩ (n - i) sc R1 43 (xs.drop (i * 9)) 9 (n - i) Tryz.underlying22 hsz hW2N (by simp only [Nat.min_def]; split <;> omega) hdl
     (fun j u hj => by
       rw [Addr.add_lit]
       rw [List.getElem?_drop] at hj
       have := hcell _ u hj
       show W2.cell? _ = _
       rw [World.cell?_of_block (w := w) (hW2o g hgl)]
       exact this) (by rw [hdl, hR1s]; omega) (fun u hu => h1 u (List.mem_of_mem_drop hu))
 have HE : Hid ((W2.drew.setRow N R2).ownsRow base 43 9 (.slice (some ⟨N, 0, none⟩) (n + 1) G) (n + 1) (xs.take (i * 9) ++ vs ++ xs.drop (i * 9)) ∧ w.grownBy (W2.drew.setRow N R2) (some g)) := Lib.hid (by
   refine ⟨⟨?_, .inr ⟨N, G, R2, rfl, by omega, setRow_heap W2.drew N R1 R2 _ _ hW2N, hGn, hG63, hR2s, hR2t⟩⟩, ?_⟩
   · simp only [List.length_append, List.length_take, List.length_drop, hvl, hxl]; omega
   · refine ⟨by subst hW2 hW1; rfl, by subst hW2 hW1; rfl, by subst hW2 hW1; rfl, by subst hW2 hW1; simp, fun k hk hne2 => ?_⟩
     rw [setRow_other _ N k _ (by omega)]
     exact hW2o k hk)
 unfold maxLen at hG63
 rw [← hN] at hrz
 clear hW1 hW2 hW1N hW2N hW1o hW2o hR1 hR2 hR1l hR2s hR2t hR1s hR1t hROW hRs hRl hRt hold hdl htl hxs hxl hsz hz0 hz1 hz2' hg hv hcell hN hG hkk hik
 have hz2 : ¬ ((i : Int) = (n : Int)) := by omega
 have hz3 : (c : Int) < (n : Int) + 1 := by omega
 have hw1 : IntKind.i64.wrap ((i : Int) + 1) = (i : Int) + 1 := by rw [IntKind.wrap_i64]; omega
 have hw2 : IntKind.i64.wrap ((n : Int) + 1) = (n : Int) + 1 := by rw [IntKind.wrap_i64]; omega
 have hw3 : IntKind.i64.wrap ((n : Int) + 1 - (i : Int)) = (n : Int) + 1 - (i : Int) := by rw [IntKind.wrap_i64]; omega
 have htn : ((i : Int) + 1).toNat = i + 1 := by omega
 have hb1 : (0 : Int) ≤ (i : Int) + 1 := by omega
 have hGi : ¬ (G = i) := by omega
 have hGim : ¬ (G = i + 1) := by omega
 have hci : ¬ (c = i) := by omega
 have hin : i ≤ n := by omega
 have hb3 : (i : Int) ≤ (n : Int) := by omega
 have mixed : Tryz.prog.follows Departure.mixedOrders = true := by kernel_rfl
 go_enter Tryz.func111, Tryz.ntmps111
 go_wp2_with (first
   | (at_builtin; refine Lib.wpList_append_run _ rfl _ _ _ _ rfl _ _ rfl rfl _ _ (hrz _) ?_)
   | (at_builtin; refine wpList_copy_runI _ rfl _ _ 22 22 rfl _ _ rfl rfl (hcpA _ _) ?_))
 go_region_law_o (refine step_copy_runI rfl _ _ 22 22 rfl _ _ (by simp [Act.eval, Act.put]) (by simp [Act.eval, Act.put]) (hcpB _ _ _) ?_)
 go_wp2
 go_ret
 exact ⟨_, rfl, HE.out.1, HE.out.2⟩
theorem insert_ownUa (base n : Nat) (v : Value) (xs vs : List Value) (w : World) (hown : w.ownsRow base 43 9 v n xs) (h1 : ∀ u ∈ xs, u.oneCell' = true) (i : Nat) (hi : i ≤ n) (hn : n ≤ 90000) (vb : Nat) (vt : TypeId) (hvl : vs.length = 9) (hv : w.heap[vb]? = some (.cells vs.toArray vt (0, 0))) (h1v : ∀ u ∈ vs, u.oneCell' = true) (hne : v.ownBlock ≠ some vb) (hbase : base ≤ w.heap.size) :
   Calls Tryz.prog 111 #[v, .int .i64 i, .slice (some ⟨vb, 0, none⟩) 1 1] w (InsPostUa base n i v xs vs w) := by
 by_cases hin : i = n
 · subst hin
   have e1 : xs.take (i * 9) = xs := List.take_of_length_le (by rw [hown.1]; exact Nat.le_refl _)
   have e2 : xs.drop (i * 9) = [] := List.drop_of_length_le (by rw [hown.1]; exact Nat.le_refl _)
   refine (ins_endUa base i v xs vs w hown hn vb hvl (fun j u hj => ?_) h1v hbase).mono fun e w' ⟨v', he, h2, h3⟩ => ⟨v', he, by rw [e1, e2, List.append_nil]; exact h2, h3⟩
   rw [Nat.zero_add, cellRow w vb _ vs.toArray vt (0, 0) hv]
   simpa using hj
 · rcases hown.2 with ⟨rfl, h0⟩ | ⟨g, c, cur, rfl, hbg, hg, hnc, hcm, hcs, hxs⟩
   · omega
   · by_cases hroom : n + 1 ≤ c
     · exact ins_roomUa base n c g cur xs vs w hbg hg hcm hcs hxs hown.1 h1 i (by omega) hroom vb vt hvl hv h1v (fun e => hne (by rw [e]; rfl))
     · exact ins_growUa base n c g cur xs vs w hbase hg hxs hown.1 h1 i (by omega) hn hnc (by omega) vb vt hvl hv h1v
end Go.Proofs.YtnnagboeimeiiaaGreatDoor
