/-
  Records, as rows of nine cells: without a key: the reference's and the program's Drop; nothing old turns.
-/
import Derived.Test.YtkcamfcjkjiijaaGreatDoorPPSorted2
import Derived.Test.YtkcamfcjkjiijaaGreatDoorPOdMath
import Derived.Test.YtkcamfcjkjiijaaGreatDoorPZHold
import Derived.Lib.SliceRun
import Derived.RangeFuncRecord
import Derived.Deep.RegionHeld3
import Derived.RangeFuncBox
import Derived.IntWalk
import Derived.BigRegion
namespace Go.Proofs.YtkcamfcjkjiijaaGreatDoor
open Go.RowKit
abbrev SlcUa := Option Addr × Nat × Nat
abbrev OvUa := Bs × ByteArray × Int × SlcUa × SlcUa × SlcUa × SlcUa × SlcUa × SlcUa
theorem boxV9Ua (W : World) (v0 v1 v2 v3 v4 v5 v6 v7 v8 : Value) (t : TypeId) : (W.alloc (.cells #[v0, v1, v2, v3, v4, v5, v6, v7, v8] t)).cell? ⟨W.heap.size, 0, none⟩ = some v0 ∧ (W.alloc (.cells #[v0, v1, v2, v3, v4, v5, v6, v7, v8] t)).cell? ⟨W.heap.size, 1, none⟩ = some v1 ∧ (W.alloc (.cells #[v0, v1, v2, v3, v4, v5, v6, v7, v8] t)).cell? ⟨W.heap.size, 2, none⟩ = some v2 ∧ (W.alloc (.cells #[v0, v1, v2, v3, v4, v5, v6, v7, v8] t)).cell? ⟨W.heap.size, 3, none⟩ = some v3 ∧ (W.alloc (.cells #[v0, v1, v2, v3, v4, v5, v6, v7, v8] t)).cell? ⟨W.heap.size, 4, none⟩ = some v4 ∧ (W.alloc (.cells #[v0, v1, v2, v3, v4, v5, v6, v7, v8] t)).cell? ⟨W.heap.size, 5, none⟩ = some v5 ∧ (W.alloc (.cells #[v0, v1, v2, v3, v4, v5, v6, v7, v8] t)).cell? ⟨W.heap.size, 6, none⟩ = some v6 ∧ (W.alloc (.cells #[v0, v1, v2, v3, v4, v5, v6, v7, v8] t)).cell? ⟨W.heap.size, 7, none⟩ = some v7 ∧ (W.alloc (.cells #[v0, v1, v2, v3, v4, v5, v6, v7, v8] t)).cell? ⟨W.heap.size, 8, none⟩ = some v8 := by
  refine ⟨?_, ?_, ?_, ?_, ?_, ?_, ?_, ?_, ?_⟩ <;> (rw [World.cell?_alloc_new]; rfl)
theorem box9_onUa {w W : World} {v0 v1 v2 v3 v4 v5 v6 v7 v8 : Value} {t : TypeId} (hb : Below (w.alloc (.cells #[v0, v1, v2, v3, v4, v5, v6, v7, v8] t)).heap.size (w.alloc (.cells #[v0, v1, v2, v3, v4, v5, v6, v7, v8] t)) W) :
    W.cell? ⟨w.heap.size, 0, none⟩ = some v0 ∧ W.cell? ⟨w.heap.size, 1, none⟩ = some v1 ∧ W.cell? ⟨w.heap.size, 2, none⟩ = some v2 ∧ W.cell? ⟨w.heap.size, 3, none⟩ = some v3 ∧ W.cell? ⟨w.heap.size, 4, none⟩ = some v4 ∧ W.cell? ⟨w.heap.size, 5, none⟩ = some v5 ∧ W.cell? ⟨w.heap.size, 6, none⟩ = some v6 ∧ W.cell? ⟨w.heap.size, 7, none⟩ = some v7 ∧ W.cell? ⟨w.heap.size, 8, none⟩ = some v8 := by
  obtain ⟨x0, x1, x2, x3, x4, x5, x6, x7, x8⟩ := boxV9Ua w v0 v1 v2 v3 v4 v5 v6 v7 v8 t
  have h := fun i => hb.cell (p := ⟨w.heap.size, i, none⟩) (by rw [World.size_alloc]; exact Nat.lt_succ_self _)
  exact ⟨(h 0).trans x0, (h 1).trans x1, (h 2).trans x2, (h 3).trans x3, (h 4).trans x4, (h 5).trans x5, (h 6).trans x6, (h 7).trans x7, (h 8).trans x8⟩
abbrev kyOUa : Value := .func (.func 74) #[] #[]
theorem pathOf_anyUa (X : ByteArray) (p1 : ByteArray) (p2 : Int) (p3a : Option Addr) (p3n p3c : Nat) (p4a : Option Addr) (p4n p4c : Nat) (p5a : Option Addr) (p5n p5c : Nat) (p6a : Option Addr) (p6n p6c : Nat) (p7a : Option Addr) (p7n p7c : Nat) (p8a : Option Addr) (p8n p8c : Nat) (w : World) : Calls Tryz.prog 74 #[.agg #[.string X, .string p1, .int .i64 p2, .slice p3a p3n p3c, .slice p4a p4n p4c, .slice p5a p5n p5c, .slice p6a p6n p6c, .slice p7a p7n p7c, .slice p8a p8n p8c]] w fun e w' => e = .returned (.string X) ∧ Below w.heap.size w w' := by
  obtain ⟨x0, x1, x2, x3, x4, x5, x6, x7, x8⟩ := boxV9Ua w (.string X) (.string p1) (.int .i64 p2) (.slice p3a p3n p3c) (.slice p4a p4n p4c) (.slice p5a p5n p5c) (.slice p6a p6n p6c) (.slice p7a p7n p7c) (.slice p8a p8n p8c) 71
  have B0 := Lib.hid ((Below.refl w.heap.size w).alloc (Nat.le_refl _) (.cells #[.string X, .string p1, .int .i64 p2, .slice p3a p3n p3c, .slice p4a p4n p4c, .slice p5a p5n p5c, .slice p6a p6n p6c, .slice p7a p7n p7c, .slice p8a p8n p8c] 71))
  go_enter Tryz.func74, Tryz.ntmps74
  go_wp2
  go_ret
  exact ⟨rfl, B0.out⟩
abbrev cellsOUa (x : OvUa) : Rw := [.string (bsT x.1), .string x.2.1, .int .i64 x.2.2.1, .slice x.2.2.2.1.1 x.2.2.2.1.2.1 x.2.2.2.1.2.2, .slice x.2.2.2.2.1.1 x.2.2.2.2.1.2.1 x.2.2.2.2.1.2.2, .slice x.2.2.2.2.2.1.1 x.2.2.2.2.2.1.2.1 x.2.2.2.2.2.1.2.2, .slice x.2.2.2.2.2.2.1.1 x.2.2.2.2.2.2.1.2.1 x.2.2.2.2.2.2.1.2.2, .slice x.2.2.2.2.2.2.2.1.1 x.2.2.2.2.2.2.2.1.2.1 x.2.2.2.2.2.2.2.1.2.2, .slice x.2.2.2.2.2.2.2.2.1 x.2.2.2.2.2.2.2.2.2.1 x.2.2.2.2.2.2.2.2.2.2]
abbrev HoldOUa (w : World) (v : Value) (l : List (OvUa)) : Prop := HoldV 9 w v (l.map cellsOUa)
theorem HoldOUa.parts {w : World} {v : Value} {l : List (OvUa)} (h : HoldOUa w v l) : ∃ (a : Option Addr) (c b o : Nat), v = .slice a l.length c ∧ l.length ≤ c ∧ (0 < l.length → a = some ⟨b, o, none⟩ ∧ b < w.heap.size) ∧
    ∀ (j : Nat) x, l[j]? = some x → w.cell? ⟨b, o + j * 9, none⟩ = some (.string (bsT x.1)) ∧ w.cell? ⟨b, o + j * 9 + 1, none⟩ = some (.string x.2.1) ∧ w.cell? ⟨b, o + j * 9 + 2, none⟩ = some (.int .i64 x.2.2.1) ∧ w.cell? ⟨b, o + j * 9 + 3, none⟩ = some (.slice x.2.2.2.1.1 x.2.2.2.1.2.1 x.2.2.2.1.2.2) ∧ w.cell? ⟨b, o + j * 9 + 4, none⟩ = some (.slice x.2.2.2.2.1.1 x.2.2.2.2.1.2.1 x.2.2.2.2.1.2.2) ∧ w.cell? ⟨b, o + j * 9 + 5, none⟩ = some (.slice x.2.2.2.2.2.1.1 x.2.2.2.2.2.1.2.1 x.2.2.2.2.2.1.2.2) ∧ w.cell? ⟨b, o + j * 9 + 6, none⟩ = some (.slice x.2.2.2.2.2.2.1.1 x.2.2.2.2.2.2.1.2.1 x.2.2.2.2.2.2.1.2.2) ∧ w.cell? ⟨b, o + j * 9 + 7, none⟩ = some (.slice x.2.2.2.2.2.2.2.1.1 x.2.2.2.2.2.2.2.1.2.1 x.2.2.2.2.2.2.2.1.2.2) ∧ w.cell? ⟨b, o + j * 9 + 8, none⟩ = some (.slice x.2.2.2.2.2.2.2.2.1 x.2.2.2.2.2.2.2.2.2.1 x.2.2.2.2.2.2.2.2.2.2) := by
  obtain ⟨a, c, b, o, e, hc, ha, hcell⟩ := h
  rw [List.length_map] at e hc ha
  refine ⟨a, c, b, o, e, hc, ha, fun j x hx => ?_⟩
  have := hcell j (cellsOUa x) (by rw [List.getElem?_map, hx]; rfl)
  exact ⟨this 0 _ (by omega) rfl, this 1 _ (by omega) rfl, this 2 _ (by omega) rfl, this 3 _ (by omega) rfl, this 4 _ (by omega) rfl, this 5 _ (by omega) rfl, this 6 _ (by omega) rfl, this 7 _ (by omega) rfl, this 8 _ (by omega) rfl⟩
abbrev OwnOUa (w : World) (base : Nat) (v : Value) (l : List (OvUa)) : Prop := OwnV 71 9 w base v (l.map cellsOUa)
theorem cellsO_lenUa (l : List (OvUa)) : ∀ r ∈ l.map cellsOUa, r.length = 9 := fun r hr => by obtain ⟨x, _, rfl⟩ := List.mem_map.1 hr; rfl
theorem OwnOUa.app {w' : World} {base : Nat} {v' : Value} {l : List (OvUa)} {x : OvUa} {c0 : ByteArray} (h0 : c0.data.toList = x.1) (h : w'.ownsRow base 71 9 v' (l.length + 1) ((l.map cellsOUa).flatten ++ [.string c0, .string x.2.1, .int .i64 x.2.2.1, .slice x.2.2.2.1.1 x.2.2.2.1.2.1 x.2.2.2.1.2.2, .slice x.2.2.2.2.1.1 x.2.2.2.2.1.2.1 x.2.2.2.2.1.2.2, .slice x.2.2.2.2.2.1.1 x.2.2.2.2.2.1.2.1 x.2.2.2.2.2.1.2.2, .slice x.2.2.2.2.2.2.1.1 x.2.2.2.2.2.2.1.2.1 x.2.2.2.2.2.2.1.2.2, .slice x.2.2.2.2.2.2.2.1.1 x.2.2.2.2.2.2.2.1.2.1 x.2.2.2.2.2.2.2.1.2.2, .slice x.2.2.2.2.2.2.2.2.1 x.2.2.2.2.2.2.2.2.2.1 x.2.2.2.2.2.2.2.2.2.2])) : OwnOUa w' base v' (l ++ [x]) := by
  have := OwnV.app (T := 71) (k := 9) (rows := l.map cellsOUa) (r := cellsOUa x) (cellsO_lenUa l) rfl (by rw [List.length_map]; rw [strOf h0] at h; exact h)
  unfold OwnOUa; rw [List.map_append]; exact this
theorem infoOUa : (Tryz.prog.info? 71).map (fun i => (i.zero, i.size, i.bytes)) = some (some (.agg #[.string ⟨#[]⟩, .string ⟨#[]⟩, .int .i64 0, .slice none 0 0, .slice none 0 0, .slice none 0 0, .slice none 0 0, .slice none 0 0, .slice none 0 0]), 9, 184) := by kernel_rfl
end Go.Proofs.YtkcamfcjkjiijaaGreatDoor
namespace Go.Proofs.YtkcamfcjkjiijaaGreatDoor
open Go.RowKit
end Go.Proofs.YtkcamfcjkjiijaaGreatDoor
namespace Go.Proofs.YtkcamfcjkjiijaaGreatDoor
open Go.RowKit
def offOUa (p : Bs) (x : OvUa) : Bool := !decide (x.1 = p)
def dropOUa (l : List OvUa) (p : Bs) : List OvUa := l.filter (offOUa p)
theorem dropO_keepUa {l : List OvUa} {k : Nat} {x : OvUa} {p : Bs} (hx : l[k]? = some x) (h : ¬ x.1 = p) : dropOUa (l.take (k + 1)) p = dropOUa (l.take k) p ++ [x] := by
  unfold dropOUa
  rw [List.take_add_one, hx, List.filter_append]
  simp [offOUa, h]
theorem dropO_skipUa {l : List OvUa} {k : Nat} {x : OvUa} {p : Bs} (hx : l[k]? = some x) (h : x.1 = p) : dropOUa (l.take (k + 1)) p = dropOUa (l.take k) p := by
  unfold dropOUa
  rw [List.take_add_one, hx, List.filter_append]
  simp [offOUa, h]
theorem dropO_lenUa (l : List OvUa) (p : Bs) : (dropOUa l p).length ≤ l.length := List.length_filter_le _ _
def DropPostOUa (l : List OvUa) (p : Bs) (w : World) (e : Ending) (w' : World) : Prop := ∃ v, e = .returned v ∧ OwnOUa w' w.heap.size v (dropOUa l p) ∧ Below w.heap.size w w'
set_option maxRecDepth 100000 in
set_option maxHeartbeats 4000000 in
theorem kdropO_anyUa (v : Value) (l : List OvUa) (hl : l.length ≤ 90000) (p : ByteArray) (w : World) (h : HoldOUa w v l) : Calls Tryz.prog 73 #[v, kyOUa, .string p] w (DropPostOUa l p.data.toList w) := by
  obtain ⟨a, c, b, o, rfl, hc, ha, hcell⟩ := h.parts
  have HC := Lib.hid hcell
  obtain ⟨i0, hi, hz0, hz1, hz2'⟩ := info_parts infoOUa
  have PA := fun X p1 p2 p3a p3n p3c p4a p4n p4c p5a p5n p5c p6a p6n p6c p7a p7n p7c p8a p8n p8c w => pathOf_anyUa X p1 p2 p3a p3n p3c p4a p4n p4c p5a p5n p5c p6a p6n p6c p7a p7n p7c p8a p8n p8c w
  obtain ⟨n, hN⟩ : ∃ n, l.length = n := ⟨_, rfl⟩
  rw [hN] at hc ha hl ⊢
  have HN := Lib.hid hN
  clear hcell hN h
  unfold kyOUa
  go_enter Tryz.func73, Tryz.ntmps73
  go_wp2
  go_loopw [7, 12] (fun u i wr => ∃ k : Nat, k ≤ n ∧ i = .int .i64 k ∧ Hid (OwnOUa wr w.heap.size u (dropOUa (l.take k) p.data.toList)) ∧ Hid (Below w.heap.size w wr)) (fun _ i _ => n - (intOf i).toNat)
  case atStart => exact ⟨0, by omega, rfl, Lib.hid (OwnV.nil _ _ _ _), Lib.hid (Below.refl _ _)⟩
  case round =>
    obtain ⟨k, hk, rfl, HO, HB⟩ := hrel
    have hsz := HB.out.size
    by_cases hlt : k < n
    · obtain ⟨rfl, hbw⟩ := ha (by omega)
      obtain ⟨⟨q0, q1, q2, ⟨q3a, q3n, q3c⟩, ⟨q4a, q4n, q4c⟩, ⟨q5a, q5n, q5c⟩, ⟨q6a, q6n, q6c⟩, ⟨q7a, q7n, q7c⟩, ⟨q8a, q8n, q8c⟩⟩, hx⟩ : ∃ x, l[k]? = some x := ⟨_, List.getElem?_eq_getElem (by rw [HN.out]; exact hlt)⟩
      obtain ⟨c0, c1, c2, c3, c4, c5, c6, c7, c8⟩ := HC.out k _ hx
      dsimp only at c0 c1 c2 c3 c4 c5 c6 c7 c8
      rw [← HB.out.cell (p := ⟨b, o + k * 9, none⟩) hbw] at c0
      rw [← HB.out.cell (p := ⟨b, o + k * 9 + 1, none⟩) hbw] at c1
      rw [← HB.out.cell (p := ⟨b, o + k * 9 + 2, none⟩) hbw] at c2
      rw [← HB.out.cell (p := ⟨b, o + k * 9 + 3, none⟩) hbw] at c3
      rw [← HB.out.cell (p := ⟨b, o + k * 9 + 4, none⟩) hbw] at c4
      rw [← HB.out.cell (p := ⟨b, o + k * 9 + 5, none⟩) hbw] at c5
      rw [← HB.out.cell (p := ⟨b, o + k * 9 + 6, none⟩) hbw] at c6
      rw [← HB.out.cell (p := ⟨b, o + k * 9 + 7, none⟩) hbw] at c7
      rw [← HB.out.cell (p := ⟨b, o + k * 9 + 8, none⟩) hbw] at c8
      have hlen : (dropOUa (l.take k) p.data.toList).length ≤ 90000 := Nat.le_trans (dropO_lenUa _ _) (by rw [List.length_take]; omega)
      have hq := eqT (bsT q0) p
      rw [bytesOf] at hq
      have HK := Lib.hid (And.intro (fun h => dropO_skipUa (p := p.data.toList) hx h) (fun h => dropO_keepUa (p := p.data.toList) hx h))
      have HX : Hid ((bsT q0).data.toList = q0) := Lib.hid (bytesOf _)
      generalize bsT q0 = X at *
      have HXB := Lib.hid (fun W (hb : Below (wr.alloc (.cells #[.string X, .string q1, .int .i64 q2, .slice q3a q3n q3c, .slice q4a q4n q4c, .slice q5a q5n q5c, .slice q6a q6n q6c, .slice q7a q7n q7c, .slice q8a q8n q8c] 71)).heap.size (wr.alloc (.cells #[.string X, .string q1, .int .i64 q2, .slice q3a q3n q3c, .slice q4a q4n q4c, .slice q5a q5n q5c, .slice q6a q6n q6c, .slice q7a q7n q7c, .slice q8a q8n q8c] 71)) W) => box9_onUa hb)
      have HB1 := Lib.hid ((Below.refl wr.heap.size wr).alloc (Nat.le_refl _) (.cells #[.string X, .string q1, .int .i64 q2, .slice q3a q3n q3c, .slice q4a q4n q4c, .slice q5a q5n q5c, .slice q6a q6n q6c, .slice q7a q7n q7c, .slice q8a q8n q8c] 71))
      clear hx
      by_cases he : q0 = p.data.toList
      · rw [decide_eq_true he] at hq
        have HKK := Lib.hid (HK.out.1 he)
        clear he HK
        go_wp2_with (go_at_call 74; refine (PA _ _ _ _ _ _ _ _ _ _ _ _ _ _ _ _ _ _ _ _ _ _).mono ?_; rintro e w3 ⟨rfl, hb⟩; obtain ⟨d0, d1, d2, d3, d4, d5, d6, d7, d8⟩ := HXB.out _ hb; have HG := Lib.hid (HB1.out.trans (hb.mono HB1.out.size)); clear hb)
        go_roundw
        case rel => exact ⟨k + 1, by omega, by go_num, Lib.hid (by rw [HKK.out]; exact OwnV.on HO.out HG.out), Lib.hid (HB.out.trans (HG.out.mono hsz))⟩
        case measure => simp [intOf]; omega
      · rw [decide_eq_false he] at hq
        have HKK := Lib.hid (HK.out.2 he)
        clear he HK
        go_wp2_with (first
          | (go_at_call 74; refine (PA _ _ _ _ _ _ _ _ _ _ _ _ _ _ _ _ _ _ _ _ _ _).mono ?_; rintro e w3 ⟨rfl, hb⟩; obtain ⟨d0, d1, d2, d3, d4, d5, d6, d7, d8⟩ := HXB.out _ hb; have HG := Lib.hid (HB1.out.trans (hb.mono HB1.out.size)); have HO2 : Hid (OwnOUa w3 w.heap.size _ (dropOUa (l.take k) p.data.toList)) := Lib.hid (OwnV.on HO.out HG.out); have HB2 := Lib.hid (HB.out.trans (HG.out.mono hsz)); have hsz3 := HB2.out.size; clear hb)
          | (at_builtin; refine wpList_append_own _ rfl _ _ 22 rfl w.heap.size 71 i0 _ 9 184 Tryz.underlying22 hi hz0 hz1 hz2' rfl (by decide) _ _ _ rfl (World.ownsRow.alloc HO2.out.2 _) ⟨w3.heap.size, 0, none⟩ 1 1 [.string X, .string q1, .int .i64 q2, .slice q3a q3n q3c, .slice q4a q4n q4c, .slice q5a q5n q5c, .slice q6a q6n q6c, .slice q7a q7n q7c, .slice q8a q8n q8c] rfl rfl (by intro j u hj; match j, hj with | 0, hj => simp at hj; subst hj; simp [Addr.add] | 1, hj => simp at hj; subst hj; simp [Addr.add] | 2, hj => simp at hj; subst hj; simp [Addr.add] | 3, hj => simp at hj; subst hj; simp [Addr.add] | 4, hj => simp at hj; subst hj; simp [Addr.add] | 5, hj => simp at hj; subst hj; simp [Addr.add] | 6, hj => simp at hj; subst hj; simp [Addr.add] | 7, hj => simp at hj; subst hj; simp [Addr.add] | 8, hj => simp at hj; subst hj; simp [Addr.add]) (by intro u hu; simp at hu; rcases hu with rfl | rfl | rfl | rfl | rfl | rfl | rfl | rfl | rfl <;> rfl) (by rw [List.length_map]; unfold maxLen; omega) (by rw [List.length_map]; omega) (by simp; omega) ?_))
        intro v' w4 hown' hgrow _
        have HO3 : Hid (OwnOUa w4 w.heap.size v' (dropOUa (l.take (k + 1)) p.data.toList)) := Lib.hid (by rw [HKK.out]; exact OwnOUa.app (x := (q0, q1, q2, (q3a, q3n, q3c), (q4a, q4n, q4c), (q5a, q5n, q5c), (q6a, q6n, q6c), (q7a, q7n, q7c), (q8a, q8n, q8c))) HX.out (by first | exact hown' | (rw [List.length_map] at hown'; exact hown')))
        have HB3 : Hid (Below w.heap.size w w4) := Lib.hid (OwnV.below HB2.out HO2.out hgrow (Nat.le_refl _) (by omega))
        clear hown' hgrow
        go_wp2
        go_roundw
        case rel => exact ⟨k + 1, by omega, by go_num, HO3, HB3⟩
        case measure => simp [intOf]; omega
    · obtain rfl : k = n := by omega
      have HF : Hid (l.take k = l) := Lib.hid (by rw [← HN.out, List.take_length])
      rw [HF.out] at HO
      clear hlt
      go_wp2
      go_ret
      exact ⟨_, rfl, HO.out, HB.out⟩
set_option maxRecDepth 100000 in
set_option maxHeartbeats 4000000 in
theorem dropO_anyUa (v : Value) (l : List OvUa) (hl : l.length ≤ 90000) (p : ByteArray) (w : World) (h : HoldOUa w v l) : Calls Tryz.prog 39 #[v, .string p] w (DropPostOUa l p.data.toList w) := by
  have I := kdropO_anyUa v l hl p w h
  have HP : Hid (∀ v w', OwnOUa w' w.heap.size v (dropOUa l p.data.toList) → Below w.heap.size w w' → DropPostOUa l p.data.toList w (.returned v) w') := Lib.hid (fun v w' h1 h2 => ⟨v, rfl, h1, h2⟩)
  obtain ⟨a, c, b, o, rfl, -, -, -⟩ := h.parts
  unfold kyOUa at I
  clear h hl
  generalize l.length = n at *
  go_enter Tryz.func39, Tryz.ntmps39
  go_wp2_with (go_at_call 73; refine I.mono ?_; rintro e w1 ⟨v1, rfl, h1, hb⟩; have HO := Lib.hid h1; have HB := Lib.hid hb; clear hb h1)
  go_ret
  exact HP.out _ _ HO.out HB.out
end Go.Proofs.YtkcamfcjkjiijaaGreatDoor
