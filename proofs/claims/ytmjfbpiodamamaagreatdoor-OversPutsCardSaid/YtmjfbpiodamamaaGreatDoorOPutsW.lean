/-
  The walk of OversPuts: for every list, every override and every text it returns true; nothing old turns. Condition: LaidO.
-/
import Derived.Test.YtmjfbpiodamamaaGreatDoorOAwake
import Derived.Test.YtmjfbpiodamamaaGreatDoorOPut
import Derived.Test.YtmjfbpiodamamaaGreatDoorOFew
import Derived.Test.YtmjfbpiodamamaaGreatDoorOOpen
import Derived.Laws.StructEq
namespace Go.Proofs.YtmjfbpiodamamaaGreatDoor.oversPutsw
open Go.RowKit
theorem put_len (l : List Ov) (x : Ov) : (putO l x).length ≤ l.length + 1 := by
  unfold putO
  split
  · rw [List.length_set]; omega
  · simp only [List.length_append, List.length_cons, List.length_take, List.length_drop]; omega
theorem put_find (l : List Ov) (x : Ov) : ∃ k : Nat, (putO l x).findIdx? (pathIsO x.1) = some k ∧ (putO l x)[k]? = some x := by
  have hx : pathIsO x.1 x = true := by unfold pathIsO; simp
  unfold putO
  cases h : l.findIdx? (pathIsO x.1) with
  | some k0 =>
    obtain ⟨hk, h1, h2⟩ := List.findIdx?_eq_some_iff_getElem.1 h
    have hs : (l.set k0 x)[k0]? = some x := List.getElem?_set_self hk
    refine ⟨k0, idxO_hit hs hx (fun j y hj hy => ?_), hs⟩
    rw [List.getElem?_set_ne (by omega)] at hy
    obtain ⟨hj', e⟩ := List.getElem?_eq_some_iff.1 hy
    have := h2 j hj
    rw [e] at this
    simpa using this
  | none =>
    have hm : cutPO l x.1 ≤ l.length := by
      rcases oversO_none (l := l) (p := x.1) with ⟨-, h2⟩ | ⟨k, -, h2, h3⟩ <;> omega
    have hl : (l.take (cutPO l x.1)).length = cutPO l x.1 := by rw [List.length_take]; omega
    have hs : (l.take (cutPO l x.1) ++ x :: l.drop (cutPO l x.1))[cutPO l x.1]? = some x := by
      rw [List.getElem?_append_right (by omega), hl]; simp
    refine ⟨cutPO l x.1, idxO_hit hs hx (fun j y hj hy => ?_), hs⟩
    rw [List.getElem?_append_left (by omega), List.getElem?_take_of_lt (by omega)] at hy
    exact List.findIdx?_eq_none_iff.1 h y (List.mem_of_getElem? hy)
theorem put_meta (l : List Ov) (x : Ov) (d : Mt) : metaO (putO l x) x.1 d = x.2 := by
  obtain ⟨k, h1, h2⟩ := put_find l x
  exact metaO_hit h1 h2
theorem drop_find (l : List Ov) (p : Bs) : idxO (dropO l p) (pathIsO p) = -1 := by
  have : (dropO l p).findIdx? (pathIsO p) = none := idxO_miss (fun j y hy => by
    have := (List.mem_filter.1 (List.mem_of_getElem? hy)).2
    unfold offO at this
    unfold pathIsO
    simpa using this)
  unfold idxO; rw [this]
theorem hold_one {W : World} {b : Nat} {x : Ov} (c0 : W.cell? ⟨b, 0, none⟩ = some (.string (bsT x.1))) (c1 : W.cell? ⟨b, 1, none⟩ = some (.int .i64 x.2.1)) (c2 : W.cell? ⟨b, 2, none⟩ = some (.int .i64 x.2.2.1)) (c3 : W.cell? ⟨b, 3, none⟩ = some (.int .i64 x.2.2.2)) : HoldO W (.slice (some ⟨b, 0, none⟩) 1 1) [x] := by
  refine ⟨some ⟨b, 0, none⟩, 1, b, 0, rfl, Nat.le_refl _, fun _ => ⟨rfl, World.block_lt_of_cell? W _ c0⟩, fun j r hj i y hi hy => ?_⟩
  cases j with
  | succ j => simp at hj
  | zero =>
    simp only [List.map_cons, List.getElem?_cons_zero, Option.some.injEq] at hj
    subst hj
    match i, hi with
    | 0, _ => simp at hy; subst hy; exact c0
    | 1, _ => simp at hy; subst hy; exact c1
    | 2, _ => simp at hy; subst hy; exact c2
    | 3, _ => simp at hy; subst hy; exact c3
theorem eq_mt (a b c : Int) (W : World) : (binOp .eql 39 (.agg #[.int .i64 a, .int .i64 b, .int .i64 c]) (.agg #[.int .i64 a, .int .i64 b, .int .i64 c])).run Tryz.prog W = .ok (.bool true) W := by
  have hS : Tryz.prog.underlying 39 = some (.struct (Tryz.prog.fieldsOf 39)) := by kernel_rfl
  have hp : Tryz.prog.stoodInHeld 39 = false := by kernel_rfl
  rw [run_eql_struct, show (10000 : Nat) = 9999 + 1 from rfl, run_equalIn_agg W 9999 39 _ _ hS hp]
  simp only [Program.fieldsOf, Tryz.underlying39]
  go_simp
set_option maxRecDepth 100000 in
set_option maxHeartbeats 16000000 in
theorem walk (v : Value) (l : List Ov) (bl : l.length ≤ maxLen) (bs : ∀ x ∈ l, FitO x) (x : Ov) (bx : FitO x) (p : ByteArray) (bp : p.size ≤ 9223372036854775807) (w : World) (h : HoldO w v l) (hL : LaidO w) :
    Calls Tryz.prog 5 #[v, aggO x, .string p] w fun e' w' => e' = .returned (.bool true) ∧ Below w.heap.size w w' := by
  have AW := fun W (hb : Below w.heap.size w W) => awake10 W (hL.on hb).p (hL.on hb).e
  have B0 := (Below.refl w.heap.size w).alloc (Nat.le_refl _) (oX x)
  have HB0 := Lib.hid B0
  have HBX := Lib.hid (fun W (hb : Below (w.alloc (oX x)).heap.size (w.alloc (oX x)) W) => box4_on hb)
  have FE := fewO_any v l (w.alloc (oX x)) bl (fun x hx => (bs x hx).1) (HoldV.on h B0)
  have FX := fewO_any (.slice (some ⟨w.heap.size + 1, 0, none⟩) 1 1) [x] ((w.alloc (oX x)).alloc (oX x)) (by unfold maxLen; simp) (fun y hy => by simp at hy; subst hy; exact bx.1) (by
    have := box4_on (Below.refl ((w.alloc (oX x)).alloc (oX x)).heap.size ((w.alloc (oX x)).alloc (oX x)))
    rw [World.size_alloc] at this
    exact hold_one this.1 this.2.1 this.2.2.1 this.2.2.2)
  unfold FewPostO at FE FX
  have HH := Lib.hid h
  have hL0 := Lib.hid hL
  obtain ⟨a, c, b, o, rfl, -, -, -⟩ := h.parts
  clear h hL bl bs bx B0
  unfold aggO
  have HB1 := Lib.hid (HB0.out.alloc HB0.out.size (oX x))
  obtain ⟨X, hX⟩ : ∃ X, bsT x.1 = X := ⟨_, rfl⟩
  have HXX := Lib.hid hX
  obtain ⟨x0, x1, x2, x3⟩ := HBX.out _ (Below.refl _ _)
  unfold oX at FE FX HB0 HB1 HBX x0 x1 x2 x3
  rw [hX] at FE FX x0 ⊢
  simp only [hX] at HB0 HB1 HBX
  rw [hX] at x1 x2 x3
  by_cases hf : FewO l
  case neg =>
    rw [fewO_no hf] at FE
    clear hf HH
    generalize l.length = n at *
    go_enter Tryz.func5, Tryz.ntmps5
    go_wp2_with (first
          | (go_at_call 7; (with_reducible refine FE.mono ?_); rintro e w1 ⟨rfl, rfl⟩)
          | (go_at_call 8; refine (AW _ HB0.out).mono ?_; rintro e w2 ⟨rfl, hb⟩; have HB9 := Lib.hid (HB0.out.trans (hb.mono HB0.out.size)); clear hb))
    go_ret
    exact ⟨rfl, HB9.out⟩
  rw [fewO_yes hf] at FE
  by_cases hfx : FewO [x]
  case neg =>
    rw [fewO_no hfx] at FX
    clear hf hfx HH
    generalize l.length = n at *
    go_enter Tryz.func5, Tryz.ntmps5
    go_wp2_with (first
          | (go_at_call 7; (with_reducible refine FE.mono ?_); rintro e w1 ⟨rfl, rfl⟩)
          | (go_at_call 7; (with_reducible refine FX.mono ?_); rintro e w1 ⟨rfl, rfl⟩)
          | (go_at_call 8; refine (AW _ HB1.out).mono ?_; rintro e w2 ⟨rfl, hb⟩; have HB9 := Lib.hid (HB1.out.trans (hb.mono HB1.out.size)); clear hb))
    go_ret
    exact ⟨rfl, HB9.out⟩
  rw [fewO_yes hfx] at FX
  by_cases hp : 300 < p.size
  · clear hf hfx HH
    generalize l.length = n at *
    go_enter Tryz.func5, Tryz.ntmps5
    go_wp2_with (first
          | (go_at_call 7; (with_reducible refine FE.mono ?_); rintro e w1 ⟨rfl, rfl⟩)
          | (go_at_call 7; (with_reducible refine FX.mono ?_); rintro e w1 ⟨rfl, rfl⟩)
          | (go_at_call 8; refine (AW _ HB1.out).mono ?_; rintro e w2 ⟨rfl, hb⟩; have HB9 := Lib.hid (HB1.out.trans (hb.mono HB1.out.size)); clear hb))
    go_ret
    exact ⟨rfl, HB9.out⟩
  have hln := hf.1
  have hsx : x.1.length ≤ 4000 := by have := hfx.2 x (by simp); omega
  have P1 := fun W (hb : Below w.heap.size w W) => putO_any _ l (by omega) x W (HoldV.on HH.out hb)
  have P2 := fun W (hb : Below w.heap.size w W) => putO_ref _ l (by omega) x W (HoldV.on HH.out hb)
  have D1 := fun W (hb : Below w.heap.size w W) => dropO_any _ l (by omega) p W (HoldV.on HH.out hb)
  have D2 := fun W (hb : Below w.heap.size w W) => dropO_ref _ l (by omega) p W (HoldV.on HH.out hb)
  have F1 := fun W (hb : Below w.heap.size w W) => findO_any _ l (by omega) p W (HoldV.on HH.out hb)
  have F2 := fun W (hb : Below w.heap.size w W) => findO_ref _ l (by omega) p W (HoldV.on HH.out hb)
  have R1 := fun W (hb : Below w.heap.size w W) => rightO_any x hsx W (hL0.out.on hb).p
  have R2 := fun W => rightO_ref x hsx W
  have hpl := put_len l x
  have hdl := dropO_len l p.data.toList
  have M3 := fun u W (h : HoldO W u (putO l x)) => metaO_any u (putO l x) (by omega) (bsT x.1) (0, 0, 0) W h
  have F4 := fun u W (h : HoldO W u (dropO l p.data.toList)) => findO_any u (dropO l p.data.toList) (by omega) p W h
  have S1 := fun u1 u2 W h1 h2 => sameO_ref u1 u2 (putO l x) (by omega) W h1 h2
  have S2 := fun u1 u2 W h1 h2 => sameO_ref u1 u2 (dropO l p.data.toList) (by omega) W h1 h2
  unfold MetaP at M3
  rw [bytesOf, put_meta] at M3
  rw [drop_find] at F4
  unfold PutPostO at P1 P2
  unfold DropPostO at D1 D2
  unfold aggM at M3
  unfold aggO at P1 P2 R1 R2
  dsimp only at M3
  rw [hX] at P1 P2 R1 R2 M3
  generalize rightO x = rr at *
  generalize idxO l (pathIsO p.data.toList) = zz at *
  generalize putO l x = PL at *
  generalize dropO l p.data.toList = DL at *
  clear hf hfx HH hsx hln hX
  generalize l.length = n at *
  go_enter Tryz.func5, Tryz.ntmps5
  go_wp2_with (first
          | (go_at_call 7; (with_reducible refine FE.mono ?_); rintro e w1 ⟨rfl, rfl⟩)
          | (go_at_call 7; (with_reducible refine FX.mono ?_); rintro e w1 ⟨rfl, rfl⟩; obtain ⟨y0, y1, y2, y3⟩ := HBX.out _ ((Below.refl _ _).alloc (Nat.le_refl _) (.cells #[.string X, .int .i64 x.2.1, .int .i64 x.2.2.1, .int .i64 x.2.2.2] 41)))
          | (go_at_call 16; (with_reducible refine (P1 _ HB1.out).mono ?_); rintro e w2 ⟨v2, rfl, h1, hb⟩; have HP2 := Lib.hid h1; have HB2 := Lib.hid (HB1.out.trans (hb.mono HB1.out.size)); have HA2 := Lib.hid (((Below.refl _ _).alloc (Nat.le_refl _) (.cells #[.string X, .int .i64 x.2.1, .int .i64 x.2.2.1, .int .i64 x.2.2.2] 41)).trans (hb.mono (by simp))); clear h1 hb P1)
          | (go_at_call 17; (with_reducible refine (D1 _ HB2.out).mono ?_); rintro e w3 ⟨v3, rfl, h1, hb⟩; have HD3 := Lib.hid h1.holds; have HP3 := Lib.hid (HoldV.on HP2.out hb); have HB3 := Lib.hid (HB2.out.trans (hb.mono HB2.out.size)); have HA3 := Lib.hid (HA2.out.trans (hb.mono HA2.out.size)); clear h1 hb D1))
  have hsz3 := HB3.out.size
  obtain ⟨z0, z1, z2, z3⟩ := HBX.out _ HA3.out
  clear x0 x1 x2 x3 y0 y1 y2 y3
  have hs := And.intro z0 (And.intro z1 (And.intro z2 (And.intro z3 (Below.refl w3.heap.size w3))))
  have hB := Below.refl w3.heap.size w3
  have BE := fun (V : World) (h : V.cell? ⟨w.heap.size, 0, none⟩ = some (.string X) ∧ V.cell? ⟨w.heap.size, 1, none⟩ = some (.int .i64 x.2.1) ∧ V.cell? ⟨w.heap.size, 2, none⟩ = some (.int .i64 x.2.2.1) ∧ V.cell? ⟨w.heap.size, 3, none⟩ = some (.int .i64 x.2.2.2) ∧ Below w3.heap.size w3 V) => AtF.be (w := w3) (l := [(⟨w.heap.size, 0, none⟩, .string X), (⟨w.heap.size, 1, none⟩, .int .i64 x.2.1), (⟨w.heap.size, 2, none⟩, .int .i64 x.2.2.1), (⟨w.heap.size, 3, none⟩, .int .i64 x.2.2.2)]) h
  go_region_held3 (fun V => V.cell? ⟨w.heap.size, 0, none⟩ = some (.string X) ∧ V.cell? ⟨w.heap.size, 1, none⟩ = some (.int .i64 x.2.1) ∧ V.cell? ⟨w.heap.size, 2, none⟩ = some (.int .i64 x.2.2.1) ∧ V.cell? ⟨w.heap.size, 3, none⟩ = some (.int .i64 x.2.2.2) ∧ Below w3.heap.size w3 V)
    (first | assumption | exact hs | exact AtF.dr (w := w3) (l := [(⟨w.heap.size, 0, none⟩, .string X), (⟨w.heap.size, 1, none⟩, .int .i64 x.2.1), (⟨w.heap.size, 2, none⟩, .int .i64 x.2.2.1), (⟨w.heap.size, 3, none⟩, .int .i64 x.2.2.2)]) hs | exact AtF.dr (w := w3) (l := [(⟨w.heap.size, 0, none⟩, .string X), (⟨w.heap.size, 1, none⟩, .int .i64 x.2.1), (⟨w.heap.size, 2, none⟩, .int .i64 x.2.2.1), (⟨w.heap.size, 3, none⟩, .int .i64 x.2.2.2)]) (by assumption) | exact AtF.on (w := w3) (l := [(⟨w.heap.size, 0, none⟩, .string X), (⟨w.heap.size, 1, none⟩, .int .i64 x.2.1), (⟨w.heap.size, 2, none⟩, .int .i64 x.2.2.1), (⟨w.heap.size, 3, none⟩, .int .i64 x.2.2.2)]) (by assumption) (by assumption) | exact AtF.al (w := w3) (l := [(⟨w.heap.size, 0, none⟩, .string X), (⟨w.heap.size, 1, none⟩, .int .i64 x.2.1), (⟨w.heap.size, 2, none⟩, .int .i64 x.2.2.1), (⟨w.heap.size, 3, none⟩, .int .i64 x.2.2.2)]) (by assumption) _ | exact AtF.ald (w := w3) (l := [(⟨w.heap.size, 0, none⟩, .string X), (⟨w.heap.size, 1, none⟩, .int .i64 x.2.1), (⟨w.heap.size, 2, none⟩, .int .i64 x.2.2.1), (⟨w.heap.size, 3, none⟩, .int .i64 x.2.2.2)]) (by assumption) _ | exact AtF.al (w := w3) (l := [(⟨w.heap.size, 0, none⟩, .string X), (⟨w.heap.size, 1, none⟩, .int .i64 x.2.1), (⟨w.heap.size, 2, none⟩, .int .i64 x.2.2.1), (⟨w.heap.size, 3, none⟩, .int .i64 x.2.2.2)]) hs _ | exact AtF.ald (w := w3) (l := [(⟨w.heap.size, 0, none⟩, .string X), (⟨w.heap.size, 1, none⟩, .int .i64 x.2.1), (⟨w.heap.size, 2, none⟩, .int .i64 x.2.2.1), (⟨w.heap.size, 3, none⟩, .int .i64 x.2.2.2)]) hs _)
    (((first | (go_at_call 18; (with_reducible refine (P2 _ (HB3.out.trans ((BE _ (by assumption)).mono hsz3))).mono ?_); rintro e w4 ⟨v4, rfl, h4, hb⟩; have HQ4 := Lib.hid h4) | (go_at_call 19; (with_reducible refine (D2 _ (HB3.out.trans ((BE _ (by assumption)).mono hsz3))).mono ?_); rintro e w6 ⟨v6, rfl, h6, hb⟩; have HQ6 := Lib.hid h6.holds) | (go_at_call 14; (with_reducible refine (S1 _ _ _ (HoldV.on HP3.out (BE _ (by assumption))) HQ4.out).mono ?_); rintro e w5 ⟨rfl, q, rfl⟩; have hb := belowQ (Below.refl w4.heap.size w4) q) | (go_at_call 14; (with_reducible refine (S2 _ _ _ (HoldV.on HD3.out (BE _ (by assumption))) HQ6.out).mono ?_); rintro e w7 ⟨rfl, q, rfl⟩; have hb := belowQ (Below.refl w6.heap.size w6) q) | (go_at_call 20; (with_reducible refine (F1 _ (HB3.out.trans ((BE _ (by assumption)).mono hsz3))).mono ?_); rintro e w8 ⟨rfl, hb⟩) | (go_at_call 21; (with_reducible refine (F2 _ (HB3.out.trans ((BE _ (by assumption)).mono hsz3))).mono ?_); rintro e w9 ⟨rfl, rfl⟩; have hb := Below.refl w8.heap.size w8) | (go_at_call 22; (with_reducible refine (R1 _ (HB3.out.trans ((BE _ (by assumption)).mono hsz3))).mono ?_); rintro e wa ⟨rfl, hb⟩) | (go_at_call 23; (with_reducible refine (R2 _).mono ?_); rintro e wb ⟨rfl, hb⟩))))
  all_goals
    rename_i hHeld
    have hBB := BE _ hHeld
    have HB4 := Lib.hid (HB3.out.trans (hBB.mono hsz3))
    have HP4 := Lib.hid (HoldV.on HP3.out hBB)
    have HD4 := Lib.hid (HoldV.on HD3.out hBB)
    obtain ⟨z0, z1, z2, z3, -⟩ := hHeld
    have hsz4 := HB4.out.size
    clear hBB hs BE P2 D2 F1 F2 R1 R2 FE FX S1 S2 hB
    have EQ := fun a b c W => eq_mt a b c W
    go_wp2
    have hB := Below.refl wb.heap.size wb
    have hs := And.intro z0 (And.intro z1 (And.intro z2 (And.intro z3 (Below.refl wb.heap.size wb))))
    have BE := fun (V : World) (h : V.cell? ⟨w.heap.size, 0, none⟩ = some (.string X) ∧ V.cell? ⟨w.heap.size, 1, none⟩ = some (.int .i64 x.2.1) ∧ V.cell? ⟨w.heap.size, 2, none⟩ = some (.int .i64 x.2.2.1) ∧ V.cell? ⟨w.heap.size, 3, none⟩ = some (.int .i64 x.2.2.2) ∧ Below wb.heap.size wb V) => AtF.be (w := wb) (l := [(⟨w.heap.size, 0, none⟩, .string X), (⟨w.heap.size, 1, none⟩, .int .i64 x.2.1), (⟨w.heap.size, 2, none⟩, .int .i64 x.2.2.1), (⟨w.heap.size, 3, none⟩, .int .i64 x.2.2.2)]) h
    go_region_held3 (fun V => V.cell? ⟨w.heap.size, 0, none⟩ = some (.string X) ∧ V.cell? ⟨w.heap.size, 1, none⟩ = some (.int .i64 x.2.1) ∧ V.cell? ⟨w.heap.size, 2, none⟩ = some (.int .i64 x.2.2.1) ∧ V.cell? ⟨w.heap.size, 3, none⟩ = some (.int .i64 x.2.2.2) ∧ Below wb.heap.size wb V)
      (first | assumption | exact hs | exact AtF.dr (w := wb) (l := [(⟨w.heap.size, 0, none⟩, .string X), (⟨w.heap.size, 1, none⟩, .int .i64 x.2.1), (⟨w.heap.size, 2, none⟩, .int .i64 x.2.2.1), (⟨w.heap.size, 3, none⟩, .int .i64 x.2.2.2)]) hs | exact AtF.dr (w := wb) (l := [(⟨w.heap.size, 0, none⟩, .string X), (⟨w.heap.size, 1, none⟩, .int .i64 x.2.1), (⟨w.heap.size, 2, none⟩, .int .i64 x.2.2.1), (⟨w.heap.size, 3, none⟩, .int .i64 x.2.2.2)]) (by assumption) | exact AtF.on (w := wb) (l := [(⟨w.heap.size, 0, none⟩, .string X), (⟨w.heap.size, 1, none⟩, .int .i64 x.2.1), (⟨w.heap.size, 2, none⟩, .int .i64 x.2.2.1), (⟨w.heap.size, 3, none⟩, .int .i64 x.2.2.2)]) (by assumption) (by assumption) | exact AtF.al (w := wb) (l := [(⟨w.heap.size, 0, none⟩, .string X), (⟨w.heap.size, 1, none⟩, .int .i64 x.2.1), (⟨w.heap.size, 2, none⟩, .int .i64 x.2.2.1), (⟨w.heap.size, 3, none⟩, .int .i64 x.2.2.2)]) (by assumption) _ | exact AtF.ald (w := wb) (l := [(⟨w.heap.size, 0, none⟩, .string X), (⟨w.heap.size, 1, none⟩, .int .i64 x.2.1), (⟨w.heap.size, 2, none⟩, .int .i64 x.2.2.1), (⟨w.heap.size, 3, none⟩, .int .i64 x.2.2.2)]) (by assumption) _ | exact AtF.al (w := wb) (l := [(⟨w.heap.size, 0, none⟩, .string X), (⟨w.heap.size, 1, none⟩, .int .i64 x.2.1), (⟨w.heap.size, 2, none⟩, .int .i64 x.2.2.1), (⟨w.heap.size, 3, none⟩, .int .i64 x.2.2.2)]) hs _ | exact AtF.ald (w := wb) (l := [(⟨w.heap.size, 0, none⟩, .string X), (⟨w.heap.size, 1, none⟩, .int .i64 x.2.1), (⟨w.heap.size, 2, none⟩, .int .i64 x.2.2.1), (⟨w.heap.size, 3, none⟩, .int .i64 x.2.2.2)]) hs _)
      (((first | (go_at_call 24; (with_reducible refine (M3 _ _ (HoldV.on HP4.out (BE _ (by assumption)))).mono ?_); rintro e wc ⟨rfl, hb⟩) | (go_at_call 20; (with_reducible refine (F4 _ _ (HoldV.on HD4.out (BE _ (by assumption)))).mono ?_); rintro e wd ⟨rfl, hb⟩) | (go_at_call 8; (with_reducible refine (AW _ (HB4.out.trans ((BE _ (by assumption)).mono hsz4))).mono ?_); rintro e we ⟨rfl, hb⟩))))
    all_goals
      rename_i hHeld
      have HB9 := Lib.hid (HB4.out.trans ((BE _ hHeld).mono hsz4))
      clear hHeld
      go_wp2
      go_ret
      exact ⟨rfl, HB9.out⟩
end Go.Proofs.YtmjfbpiodamamaaGreatDoor.oversPutsw
