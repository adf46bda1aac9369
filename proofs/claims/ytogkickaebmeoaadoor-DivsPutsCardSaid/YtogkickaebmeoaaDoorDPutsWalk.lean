/-
  The walk of DivsPuts: for every list, every diversion and every text it returns true; nothing old turns. Condition: LaidP.
-/
import Derived.Test.YtogkickaebmeoaaDoorDAwake
import Derived.Test.YtogkickaebmeoaaDoorDPut
import Derived.Laws.StructEq
namespace Go.Proofs.YtogkickaebmeoaaDoor.divsPutsw
open Go.RowKit
theorem put_len (l : List Dv) (x : Dv) : (putD l x).length ≤ l.length + 1 := by
  unfold putD
  split
  · rw [List.length_set]; omega
  · simp only [List.length_append, List.length_cons, List.length_take, List.length_drop]; omega
theorem put_find (l : List Dv) (x : Dv) : ∃ k : Nat, idxD (putD l x) (pathIs x.1) = k ∧ (putD l x)[k]? = some x ∧ k < (putD l x).length := by
  have hx : pathIs x.1 x = true := by unfold pathIs; simp
  unfold putD
  cases h : l.findIdx? (pathIs x.1) with
  | some k0 =>
    obtain ⟨hk, h1, h2⟩ := List.findIdx?_eq_some_iff_getElem.1 h
    have hs : (l.set k0 x)[k0]? = some x := List.getElem?_set_self hk
    refine ⟨k0, idxD_hit hs hx (fun j y hj hy => ?_), hs, by rw [List.length_set]; exact hk⟩
    rw [List.getElem?_set_ne (by omega)] at hy
    obtain ⟨hj', e⟩ := List.getElem?_eq_some_iff.1 hy
    have := h2 j hj
    rw [e] at this
    simpa using this
  | none =>
    have hm : cutD l x.1 ≤ l.length := by
      rcases overs_none (l := l) (p := x.1) with ⟨-, h2⟩ | ⟨k, -, h2, h3⟩ <;> omega
    have hl : (l.take (cutD l x.1)).length = cutD l x.1 := by rw [List.length_take]; omega
    have hs : (l.take (cutD l x.1) ++ x :: l.drop (cutD l x.1))[cutD l x.1]? = some x := by
      rw [List.getElem?_append_right (by omega), hl]; simp
    refine ⟨cutD l x.1, idxD_hit hs hx (fun j y hj hy => ?_), hs, by simp; omega⟩
    rw [List.getElem?_append_left (by omega), List.getElem?_take_of_lt (by omega)] at hy
    exact List.findIdx?_eq_none_iff.1 h y (List.mem_of_getElem? hy)
theorem drop_find (l : List Dv) (p : Bs) : idxD (dropD l p) (pathIs p) = -1 := idxD_miss (fun j y hy => by
  have := (List.mem_filter.1 (List.mem_of_getElem? hy)).2
  unfold offB at this
  unfold pathIs
  simpa using this)
theorem hold_one {W : World} {b : Nat} {x : Dv} (h : At3 W b (bsA x.1) (bsA x.2.1) (bsA x.2.2)) : HoldD W (.slice (some ⟨b, 0, none⟩) 1 1) [x] := by
  refine ⟨some ⟨b, 0, none⟩, 1, b, 0, rfl, Nat.le_refl _, fun _ => ⟨rfl, World.block_lt_of_cell? W _ h.1⟩, fun j r hj i y hi hy => ?_⟩
  cases j with
  | succ j => simp at hj
  | zero =>
    simp only [List.map_cons, List.getElem?_cons_zero, Option.some.injEq] at hj
    subst hj
    match i, hi with
    | 0, _ => simp [rowD] at hy; subst hy; exact h.1
    | 1, _ => simp [rowD] at hy; subst hy; exact h.2.1
    | 2, _ => simp [rowD] at hy; subst hy; exact h.2.2
theorem eq_dv (X Y Z : ByteArray) (W : World) : (binOp .eql 54 (.agg #[.string X, .string Y, .string Z]) (.agg #[.string X, .string Y, .string Z])).run Tryd.prog W = .ok (.bool true) W := by
  have hS : Tryd.prog.underlying 54 = some (.struct (Tryd.prog.fieldsOf 54)) := by kernel_rfl
  have hp : Tryd.prog.stoodInHeld 54 = false := by kernel_rfl
  rw [run_eql_struct, show (10000 : Nat) = 9999 + 1 from rfl, run_equalIn_agg W 9999 54 _ _ hS hp]
  simp only [Program.fieldsOf, Tryd.underlying54]
  go_simp
theorem right9_rx2 (x : Dv) (hx : x.1.length ≤ 4000 ∧ x.2.1.length ≤ 4000 ∧ x.2.2.length ≤ 4000) (w : World) : Calls Tryd.prog 41 #[aggX x] w fun e w' => e = .returned (.bool (rightD x)) ∧ Below w.heap.size w w' := right9_ref (bsA x.1) (bsA x.2.1) (bsA x.2.2) (by rw [sizeOf, bytesOf]; omega) (by rw [sizeOf, bytesOf]; omega) (by rw [sizeOf, bytesOf]; omega) w
set_option maxRecDepth 100000 in
set_option maxHeartbeats 8000000 in
theorem walk (v : Value) (l : List Dv) (bl : l.length ≤ maxLen) (bs : ∀ x ∈ l, x.1.length ≤ maxLen ∧ x.2.1.length ≤ maxLen ∧ x.2.2.length ≤ maxLen) (x : Dv) (bx : x.1.length ≤ maxLen ∧ x.2.1.length ≤ maxLen ∧ x.2.2.length ≤ maxLen) (p : ByteArray) (bp : p.size ≤ 9223372036854775807) (w : World) (h : HoldD w v l) (hL : LaidP w) :
    Calls Tryd.prog 7 #[v, aggX x, .string p] w fun e' w' => e' = .returned (.bool true) ∧ Below w.heap.size w w' := by
  have AW := fun W (hb : Below w.heap.size w W) => awake9 W (hL.on hb)
  have B0 := (Below.refl w.heap.size w).alloc (Nat.le_refl _) (.cells #[.string (bsA x.1), .string (bsA x.2.1), .string (bsA x.2.2)] 54)
  have HBX := Lib.hid (box3 w (bsA x.1) (bsA x.2.1) (bsA x.2.2) 54)
  have HB0 := Lib.hid B0
  have FE := few_any v l _ bl bs (HoldR.on h B0)
  have FX := fun (W : World) (b : Nat) (h : At3 W b (bsA x.1) (bsA x.2.1) (bsA x.2.2)) => few_any _ [x] W (by unfold maxLen; simp) (fun y hy => by simp at hy; subst hy; exact bx) (hold_one h)
  unfold FewPost at FE FX
  have HH := Lib.hid h
  have hL0 := Lib.hid hL
  obtain ⟨a, c, b, o, rfl, -, -, -⟩ := h.parts
  clear h hL bl bs bx B0
  unfold aggX aggD
  by_cases hf : FewD l
  case neg =>
    rw [fewB_no hf] at FE
    clear hf HH
    generalize l.length = n at *
    generalize bsA x.1 = X at *
    generalize bsA x.2.1 = Y at *
    generalize bsA x.2.2 = Z at *
    go_enter Tryd.func7, Tryd.ntmps7
    go_wp2_with (first
          | (go_at_call 31; (with_reducible refine FE.mono ?_); rintro e w1 ⟨rfl, rfl⟩)
          | (go_at_call 32; refine (AW _ HB0.out).mono ?_; rintro e w2 ⟨rfl, hb⟩; have HB9 := Lib.hid (HB0.out.trans (hb.mono HB0.out.size)); clear hb))
    go_ret
    exact ⟨rfl, HB9.out⟩
  rw [fewB_yes hf] at FE
  by_cases hfx : FewD [x]
  case neg =>
    rw [fewB_no hfx] at FX
    clear hf hfx HH
    generalize l.length = n at *
    generalize bsA x.1 = X at *
    generalize bsA x.2.1 = Y at *
    generalize bsA x.2.2 = Z at *
    go_enter Tryd.func7, Tryd.ntmps7
    obtain ⟨x0, x1, x2⟩ := HBX.out
    have FX2 := FX _ (w.heap.size + 1) (by have := box3 (w.alloc (.cells #[.string X, .string Y, .string Z] 54)) X Y Z 54; rw [World.size_alloc] at this; exact this)
    go_wp2_with (first
          | (go_at_call 31; (with_reducible refine FE.mono ?_); rintro e w1 ⟨rfl, rfl⟩)
          | (go_at_call 31; (with_reducible refine FX2.mono ?_); rintro e w1 ⟨rfl, rfl⟩)
          | (go_at_call 32; refine (AW _ (HB0.out.alloc HB0.out.size _)).mono ?_; rintro e w2 ⟨rfl, hb⟩; have HB9 := Lib.hid ((HB0.out.alloc HB0.out.size _).trans (hb.mono (HB0.out.alloc HB0.out.size _).size)); clear hb))
    go_ret
    exact ⟨rfl, HB9.out⟩
  rw [fewB_yes hfx] at FX
  by_cases hp : 300 < p.size
  · clear hf hfx HH
    generalize l.length = n at *
    generalize bsA x.1 = X at *
    generalize bsA x.2.1 = Y at *
    generalize bsA x.2.2 = Z at *
    go_enter Tryd.func7, Tryd.ntmps7
    obtain ⟨x0, x1, x2⟩ := HBX.out
    have FX2 := FX _ (w.heap.size + 1) (by have := box3 (w.alloc (.cells #[.string X, .string Y, .string Z] 54)) X Y Z 54; rw [World.size_alloc] at this; exact this)
    go_wp2_with (first
          | (go_at_call 31; (with_reducible refine FE.mono ?_); rintro e w1 ⟨rfl, rfl⟩)
          | (go_at_call 31; (with_reducible refine FX2.mono ?_); rintro e w1 ⟨rfl, rfl⟩)
          | (go_at_call 32; refine (AW _ (HB0.out.alloc HB0.out.size _)).mono ?_; rintro e w2 ⟨rfl, hb⟩; have HB9 := Lib.hid ((HB0.out.alloc HB0.out.size _).trans (hb.mono (HB0.out.alloc HB0.out.size _).size)); clear hb))
    go_ret
    exact ⟨rfl, HB9.out⟩
  have sX : (bsA x.1).size ≤ 300 := by rw [sizeOf, bytesOf]; exact (hfx.2 x (by simp)).1
  have hln := hf.1
  have hsx : x.1.length ≤ 4000 ∧ x.2.1.length ≤ 4000 ∧ x.2.2.length ≤ 4000 := by have := hfx.2 x (by simp); omega
  have P1 := fun W (hb : Below w.heap.size w W) => put_any _ l (by omega) x W (HoldR.on HH.out hb)
  have P2 := fun W (hb : Below w.heap.size w W) => put_ref _ l (by omega) x W (HoldR.on HH.out hb)
  have D1 := fun W (hb : Below w.heap.size w W) => drop_any _ l (by omega) p W (HoldR.on HH.out hb)
  have D2 := fun W (hb : Below w.heap.size w W) => drop_ref _ l (by omega) p W (HoldR.on HH.out hb)
  have F1 := fun W (hb : Below w.heap.size w W) => find9_any _ l (by omega) p W (HoldR.on HH.out hb)
  have F2 := fun W (hb : Below w.heap.size w W) => find_ref9 _ l (by omega) p W (HoldR.on HH.out hb)
  have R1 := fun W (hb : Below w.heap.size w W) => right9_x x hsx W (hL0.out.on hb)
  have R2 := fun W => right9_rx2 x hsx W
  obtain ⟨k, hk1, hk2, hk3⟩ := put_find l x
  have hpl := put_len l x
  have hdl := drop_len l p.data.toList
  have F3 := fun u W (h : HoldD W u (putD l x)) => find9_any u (putD l x) (by omega) (bsA x.1) W h
  have F4 := fun u W (h : HoldD W u (dropD l p.data.toList)) => find9_any u (dropD l p.data.toList) (by omega) p W h
  have S1 := fun u1 u2 W h1 h2 => same_ref9 u1 u2 (putD l x) (by omega) W h1 h2
  have S2 := fun u1 u2 W h1 h2 => same_ref9 u1 u2 (dropD l p.data.toList) (by omega) W h1 h2
  have HK := Lib.hid (fun W u (h : HoldD W u (putD l x)) => (show ∃ (A B C : Nat), u = .slice (some ⟨A, B, none⟩) (putD l x).length C ∧ W.cell? ⟨A, B + k * 3, none⟩ = some (.string (bsA x.1)) ∧ W.cell? ⟨A, B + k * 3 + 1, none⟩ = some (.string (bsA x.2.1)) ∧ W.cell? ⟨A, B + k * 3 + 2, none⟩ = some (.string (bsA x.2.2)) by
    obtain ⟨a, c, b, o, e, hc, ha, hcell⟩ := h.parts
    obtain ⟨e2, -⟩ := ha (by omega)
    subst e2
    exact ⟨b, o, c, e, hcell k x hk2⟩))
  rw [bytesOf, hk1] at F3
  rw [drop_find] at F4
  unfold PutPost at P1 P2
  unfold DropPost at D1 D2
  generalize rightD x = rr at *
  generalize idxD l (pathIs p.data.toList) = zz at *
  generalize putD l x = PL at *
  generalize dropD l p.data.toList = DL at *
  unfold aggX aggD at P1 P2 R1 R2
  clear hf hfx HH hsx hk1 hk2 hln
  generalize l.length = n at *
  generalize bsA x.1 = X at *
  generalize bsA x.2.1 = Y at *
  generalize bsA x.2.2 = Z at *
  go_enter Tryd.func7, Tryd.ntmps7
  obtain ⟨x0, x1, x2⟩ := HBX.out
  have FX2 := FX _ (w.heap.size + 1) (by have := box3 (w.alloc (.cells #[.string X, .string Y, .string Z] 54)) X Y Z 54; rw [World.size_alloc] at this; exact this)
  have HB1 := Lib.hid (HB0.out.alloc HB0.out.size (.cells #[.string X, .string Y, .string Z] 54))
  have A1 := Lib.hid ((show At3 _ w.heap.size X Y Z from HBX.out).on ((Below.refl (w.alloc (.cells #[.string X, .string Y, .string Z] 54)).heap.size (w.alloc (.cells #[.string X, .string Y, .string Z] 54))).alloc (Nat.le_refl _) (.cells #[.string X, .string Y, .string Z] 54)))
  go_wp2_with (first
          | (go_at_call 31; (with_reducible refine FE.mono ?_); rintro e w1 ⟨rfl, rfl⟩)
          | (go_at_call 31; (with_reducible refine FX2.mono ?_); rintro e w1 ⟨rfl, rfl⟩; obtain ⟨y0, y1, y2⟩ := A1.out)
          | (go_at_call 33; (with_reducible refine (P1 _ HB1.out).mono ?_); rintro e w2 ⟨v2, rfl, h1, hb⟩; have HP2 := Lib.hid h1; have HB2 := Lib.hid (HB1.out.trans (hb.mono HB1.out.size)); have A2 := Lib.hid (A1.out.on hb); clear h1 hb P1)
          | (go_at_call 34; (with_reducible refine (D1 _ HB2.out).mono ?_); rintro e w3 ⟨v3, rfl, h1, hb⟩; have HD3 := Lib.hid h1.holds; have HP3 := Lib.hid (HoldR.on HP2.out hb); have HB3 := Lib.hid (HB2.out.trans (hb.mono HB2.out.size)); have A3 := Lib.hid (A2.out.on hb); clear h1 hb D1))
  have hsz3 := HB3.out.size
  have hs := (show w3.cell? ⟨w.heap.size, 0, none⟩ = some (.string X) ∧ w3.cell? ⟨w.heap.size, 1, none⟩ = some (.string Y) ∧ w3.cell? ⟨w.heap.size, 2, none⟩ = some (.string Z) ∧ Below w3.heap.size w3 w3 from ⟨A3.out.1, A3.out.2.1, A3.out.2.2, Below.refl _ _⟩)
  have hs' := hs
  obtain ⟨x0, x1, x2, hB⟩ := hs'
  have BE := fun V (h : V.cell? ⟨w.heap.size, 0, none⟩ = some (.string X) ∧ V.cell? ⟨w.heap.size, 1, none⟩ = some (.string Y) ∧ V.cell? ⟨w.heap.size, 2, none⟩ = some (.string Z) ∧ Below w3.heap.size w3 V) => s3_be h
  have BW := fun V (h : V.cell? ⟨w.heap.size, 0, none⟩ = some (.string X) ∧ V.cell? ⟨w.heap.size, 1, none⟩ = some (.string Y) ∧ V.cell? ⟨w.heap.size, 2, none⟩ = some (.string Z) ∧ Below w3.heap.size w3 V) => HB3.out.trans ((s3_be h).mono hsz3)
  have S1' := fun V u4 h (h4 : HoldD V u4 PL) => S1 v2 u4 V (HoldR.on HP3.out (BE V h)) h4
  have S2' := fun V u4 h (h4 : HoldD V u4 DL) => S2 v3 u4 V (HoldR.on HD3.out (BE V h)) h4
  clear S1 S2
  go_region_held3 (fun V => V.cell? ⟨w.heap.size, 0, none⟩ = some (.string X) ∧ V.cell? ⟨w.heap.size, 1, none⟩ = some (.string Y) ∧ V.cell? ⟨w.heap.size, 2, none⟩ = some (.string Z) ∧ Below w3.heap.size w3 V)
    (first | assumption | exact hs | exact s3_dr hs | exact s3_on (by assumption) (by assumption))
    ((first
      | (go_at_call 36; (with_reducible refine (P2 _ (BW _ (by assumption))).mono ?_); rintro e w4 ⟨v4, rfl, h4, hb⟩; have HQ4 := Lib.hid h4)
      | (go_at_call 37; (with_reducible refine (D2 _ (BW _ (by assumption))).mono ?_); rintro e w6 ⟨v6, rfl, h6, hb⟩; have HQ6 := Lib.hid h6.holds)
      | (go_at_call 35; (with_reducible refine (S1' _ _ (by assumption) HQ4.out).mono ?_); rintro e w5 ⟨rfl, q, rfl⟩; have hb := belowQ (Below.refl w4.heap.size w4) q)
      | (go_at_call 35; (with_reducible refine (S2' _ _ (by assumption) HQ6.out).mono ?_); rintro e w7 ⟨rfl, q, rfl⟩; have hb := belowQ (Below.refl w6.heap.size w6) q)
      | (go_at_call 38; (with_reducible refine (F1 _ (BW _ (by assumption))).mono ?_); rintro e w8 ⟨rfl, hb⟩)
      | (go_at_call 39; (with_reducible refine (F2 _ (BW _ (by assumption))).mono ?_); rintro e w9 ⟨rfl, rfl⟩; have hb := Below.refl w8.heap.size w8)
      | (go_at_call 40; (with_reducible refine (R1 _ (BW _ (by assumption))).mono ?_); rintro e wa ⟨rfl, hb⟩)
      | (go_at_call 41; (with_reducible refine (R2 _).mono ?_); rintro e wb ⟨rfl, hb⟩)))
  all_goals
    rename_i hHeld
    have HB4 := Lib.hid (HB3.out.trans (hHeld.2.2.2.mono hsz3))
    have HP4 := Lib.hid (HoldR.on HP3.out hHeld.2.2.2)
    have HD4 := Lib.hid (HoldR.on HD3.out hHeld.2.2.2)
    obtain ⟨A, B, C, rfl, -, -, -⟩ := HK.out _ _ HP4.out
    have A4 := Lib.hid (show At3 wb w.heap.size X Y Z from ⟨hHeld.1, hHeld.2.1, hHeld.2.2.1⟩)
    obtain ⟨x0, x1, x2⟩ := A4.out
    have F5 := F3 _ _ HP4.out
    clear hHeld hs BE BW S1' S2' P2 D2 F1 F2 R1 R2 FE FX FX2 F3
    go_wp2_with (go_at_call 38; (with_reducible refine F5.mono ?_); rintro e wc ⟨rfl, hb⟩; have HB5 := Lib.hid (HB4.out.trans (hb.mono HB4.out.size)); have HP5 := Lib.hid (HoldR.on HP4.out hb); have HD5 := Lib.hid (HoldR.on HD4.out hb); have A5 := Lib.hid (A4.out.on hb); clear hb)
    have hsz5 := HB5.out.size
    obtain ⟨A', B', C', hv, c0, c1, c2⟩ := HK.out _ _ HP5.out
    simp only [Value.slice.injEq, Option.some.injEq, Addr.mk.injEq, and_true, true_and] at hv
    obtain ⟨⟨rfl, rfl⟩, rfl⟩ := hv
    have hs := (show wc.cell? ⟨w.heap.size, 0, none⟩ = some (.string X) ∧ wc.cell? ⟨w.heap.size, 1, none⟩ = some (.string Y) ∧ wc.cell? ⟨w.heap.size, 2, none⟩ = some (.string Z) ∧ wc.cell? ⟨A, B + k * 3, none⟩ = some (.string X) ∧ wc.cell? ⟨A, B + k * 3 + 1, none⟩ = some (.string Y) ∧ wc.cell? ⟨A, B + k * 3 + 2, none⟩ = some (.string Z) ∧ Below wc.heap.size wc wc from ⟨A5.out.1, A5.out.2.1, A5.out.2.2, c0, c1, c2, Below.refl _ _⟩)
    have hs' := hs
    obtain ⟨x0, x1, x2, c0, c1, c2, hB⟩ := hs'
    have F6 := fun V (h : V.cell? ⟨w.heap.size, 0, none⟩ = some (.string X) ∧ V.cell? ⟨w.heap.size, 1, none⟩ = some (.string Y) ∧ V.cell? ⟨w.heap.size, 2, none⟩ = some (.string Z) ∧ V.cell? ⟨A, B + k * 3, none⟩ = some (.string X) ∧ V.cell? ⟨A, B + k * 3 + 1, none⟩ = some (.string Y) ∧ V.cell? ⟨A, B + k * 3 + 2, none⟩ = some (.string Z) ∧ Below wc.heap.size wc V) => F4 v3 V (HoldR.on HD5.out (s6_be h))
    have A6 := fun V (h : V.cell? ⟨w.heap.size, 0, none⟩ = some (.string X) ∧ V.cell? ⟨w.heap.size, 1, none⟩ = some (.string Y) ∧ V.cell? ⟨w.heap.size, 2, none⟩ = some (.string Z) ∧ V.cell? ⟨A, B + k * 3, none⟩ = some (.string X) ∧ V.cell? ⟨A, B + k * 3 + 1, none⟩ = some (.string Y) ∧ V.cell? ⟨A, B + k * 3 + 2, none⟩ = some (.string Z) ∧ Below wc.heap.size wc V) => AW V (HB5.out.trans ((s6_be h).mono hsz5))
    clear F4 AW
    have k0 : (0 : Int) ≤ (k : Int) := by omega
    have k1 : (k : Int) < (PL.length : Int) := by omega
    have hEQ := fun W => eq_dv X Y Z W
    have hm1 : Tryd.prog.eqGuardType Tryd.prog.depth 54 = false := by kernel_rfl
    go_region_held3 (fun V => V.cell? ⟨w.heap.size, 0, none⟩ = some (.string X) ∧ V.cell? ⟨w.heap.size, 1, none⟩ = some (.string Y) ∧ V.cell? ⟨w.heap.size, 2, none⟩ = some (.string Z) ∧ V.cell? ⟨A, B + k * 3, none⟩ = some (.string X) ∧ V.cell? ⟨A, B + k * 3 + 1, none⟩ = some (.string Y) ∧ V.cell? ⟨A, B + k * 3 + 2, none⟩ = some (.string Z) ∧ Below wc.heap.size wc V)
      (first | assumption | exact hs | exact s6_dr hs | exact s6_on (by assumption) (by assumption))
      ((first
        | (go_at_call 38; (with_reducible refine (F6 _ (by assumption)).mono ?_); rintro e wd ⟨rfl, hb⟩)
        | (go_at_call 32; (with_reducible refine (A6 _ (by assumption)).mono ?_); rintro e we ⟨rfl, hb⟩)))
    all_goals
      rename_i hHeld
      have HB9 := Lib.hid (HB5.out.trans (hHeld.2.2.2.2.2.2.mono hsz5))
      clear hHeld
      go_wp2
      go_ret
      exact ⟨rfl, HB9.out⟩
end Go.Proofs.YtogkickaebmeoaaDoor.divsPutsw
