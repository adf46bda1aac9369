/-
  cellarerlaw30's few and told, the reference's Same of equal lists, awake: what each returns; nothing old turns. Condition of awake: LaidP.
-/
import Derived.Test.YtoipggglmpcjfaaDoorYParse
namespace Go.Proofs.YtoipggglmpcjfaaDoor
open Go.RowKit
def FewY (l : List Sl) : Prop := l.length ≤ 70 ∧ ∀ x ∈ l, x.1.length ≤ 300 ∧ x.2.2.length ≤ 300
theorem FewY.small {l : List Sl} (h : FewY l) : SmallY l := fun x hx => by have := h.2 x hx; omega
open Classical in
noncomputable def fewY (l : List Sl) : Bool := decide (FewY l)
open Classical in
theorem fewY_yes {l : List Sl} (h : FewY l) : fewY l = true := by unfold fewY; exact decide_eq_true h
open Classical in
theorem fewY_no {l : List Sl} (h : ¬ FewY l) : fewY l = false := by unfold fewY; exact decide_eq_false h
def FewPostY (l : List Sl) (w : World) (e : Ending) (w' : World) : Prop := e = .returned (.bool (fewY l)) ∧ w = w'
set_option maxRecDepth 100000 in
set_option maxHeartbeats 8000000 in
theorem fewY_any (v : Value) (l : List Sl) (w : World) (hb : l.length ≤ maxLen) (hsz : ∀ x ∈ l, x.1.length ≤ maxLen ∧ x.2.2.length ≤ maxLen) (h : HoldY w v l) : Calls Tryd.prog 5 #[v] w (FewPostY l w) := by
  obtain ⟨a, c, b, o, rfl, hc, ha, hcell⟩ := h.parts
  have HC := Lib.hid hcell
  have HSZ := Lib.hid hsz
  have HF : Hid (¬ FewY l → FewPostY l w (.returned (.bool false)) w) := Lib.hid (fun g => ⟨by rw [fewY_no g], rfl⟩)
  have HT : Hid (FewY l → FewPostY l w (.returned (.bool true)) w) := Lib.hid (fun g => ⟨by rw [fewY_yes g], rfl⟩)
  obtain ⟨n, hN⟩ : ∃ n, l.length = n := ⟨_, rfl⟩
  rw [hN] at hc ha hb ⊢
  have HN := Lib.hid hN
  unfold maxLen at hb
  clear hcell hN h hsz
  by_cases h70 : 70 < n
  · have HF2 := Lib.hid (HF.out (fun g => by have := g.1; rw [HN.out] at this; omega))
    go_enter Tryd.func5, Tryd.ntmps5
    go_wp2
    go_ret
    exact HF2.out
  go_enter Tryd.func5, Tryd.ntmps5
  go_wp2
  go_loop [3] (fun i => ∃ k : Nat, k ≤ n ∧ i = .int .i64 k ∧ Hid (∀ (j : Nat) y, j < k → l[j]? = some y → y.1.length ≤ 300 ∧ y.2.2.length ≤ 300)) (fun i => n - (intOf i).toNat)
  case atStart => exact ⟨0, by omega, rfl, Lib.hid (fun j y hj => by omega)⟩
  case round =>
    obtain ⟨k, hk, rfl, H⟩ := hrel
    by_cases hlt : k < n
    · obtain ⟨rfl, hbw⟩ := ha (by omega)
      obtain ⟨x, hx⟩ : ∃ x, l[k]? = some x := ⟨_, List.getElem?_eq_getElem (by rw [HN.out]; exact hlt)⟩
      obtain ⟨c0, -, c2⟩ := HC.out k x hx
      have hz := HSZ.out x (List.mem_of_getElem? hx)
      unfold maxLen at hz
      obtain ⟨X, hX⟩ : ∃ X, bsT x.1 = X := ⟨_, rfl⟩
      obtain ⟨Z, hZ⟩ : ∃ Z, bsT x.2.2 = Z := ⟨_, rfl⟩
      have sX : X.size = x.1.length := by rw [← hX, sizeOf, bytesOf]
      have sZ : Z.size = x.2.2.length := by rw [← hZ, sizeOf, bytesOf]
      rw [hX] at c0
      rw [hZ] at c2
      have HK : Hid (X.size ≤ 300 → Z.size ≤ 300 → ∀ (j : Nat) y, j < k + 1 → l[j]? = some y → y.1.length ≤ 300 ∧ y.2.2.length ≤ 300) := Lib.hid (fun g1 g2 j y hj hy => by
        by_cases e : j = k
        · subst e; rw [hx] at hy; cases hy; omega
        · exact H.out j y (by omega) hy)
      have HNO : Hid (¬ (X.size ≤ 300 ∧ Z.size ≤ 300) → FewPostY l w (.returned (.bool false)) w) := Lib.hid (fun g => HF.out (fun q => g (by have := q.2 x (List.mem_of_getElem? hx); omega)))
      have zX : X.size ≤ 9223372036854775807 := by omega
      have zZ : Z.size ≤ 9223372036854775807 := by omega
      clear hX hZ sX sZ hz hx H
      by_cases g1 : 300 < X.size
      · have HN2 := Lib.hid (HNO.out (by omega))
        clear HNO HK
        go_wp2
        go_ret
        exact HN2.out
      by_cases g2 : 300 < Z.size
      · have HN2 := Lib.hid (HNO.out (by omega))
        clear HNO HK
        go_wp2
        go_ret
        exact HN2.out
      have HK2 := Lib.hid (HK.out (by omega) (by omega))
      clear HK HNO
      go_wp2
      go_round
      case rel => exact ⟨k + 1, by omega, by go_num, HK2⟩
      case measure => simp [intOf]; omega
    · obtain rfl : k = n := by omega
      have HR := Lib.hid (HT.out ⟨by rw [HN.out]; omega, fun y hy => by
        obtain ⟨j, hj⟩ := List.mem_iff_getElem?.1 hy
        exact H.out j y (by have := (List.getElem?_eq_some_iff.1 hj).1; rw [HN.out] at this; exact this) hj⟩)
      clear hlt H HT
      go_wp2
      go_ret
      exact HR.out
set_option maxRecDepth 100000 in
set_option maxHeartbeats 4000000 in
theorem sameY_ref (u v : Value) (l : List Sl) (hl : l.length ≤ 90000) (w : World) (h1 : HoldY w u l) (h2 : HoldY w v l) : Calls Tryd.prog 11 #[u, v] w fun e w' => e = .returned (.bool true) ∧ ∃ q, w' = w.drewN q := by
  obtain ⟨a1, c1, b1, o1, rfl, hc1, ha1, hl1⟩ := h1.parts
  obtain ⟨a2, c2, b2, o2, rfl, hc2, ha2, hl2⟩ := h2.parts
  have H1 := Lib.hid hl1
  have H2 := Lib.hid hl2
  obtain ⟨n, hN⟩ : ∃ n, l.length = n := ⟨_, rfl⟩
  rw [hN] at hc1 ha1 hc2 ha2 hl ⊢
  have HN := Lib.hid hN
  clear hl1 hl2 hN h1 h2
  go_enter Tryd.func11, Tryd.ntmps11
  go_wp2
  go_loopw [5] (fun i wr => ∃ k : Nat, k ≤ n ∧ i = .int .i64 k ∧ Hid (∃ q, wr = w.drewN q)) (fun i _ => n - (intOf i).toNat)
  case atStart => exact ⟨0, by omega, rfl, Lib.hid ⟨0, rfl⟩⟩
  case round =>
    obtain ⟨k, hk, rfl, HQ⟩ := hrel
    by_cases hlt : k < n
    · obtain ⟨rfl, hbw1⟩ := ha1 (by omega)
      obtain ⟨rfl, hbw2⟩ := ha2 (by omega)
      obtain ⟨⟨t, m, u⟩, hx⟩ : ∃ x, l[k]? = some x := ⟨_, List.getElem?_eq_getElem (by rw [HN.out]; exact hlt)⟩
      obtain ⟨q, hw⟩ := HQ.out
      obtain ⟨d0, d1, d2⟩ := H1.out k _ hx
      obtain ⟨f0, f1, f2⟩ := H2.out k _ hx
      dsimp only at d0 d1 d2 f0 f1 f2
      rw [← World.cell?_drewN w q] at d0 d1 d2 f0 f1 f2
      rw [← hw] at d0 d1 d2 f0 f1 f2
      have HMM : Hid (∀ m', ∃ q, wr.drewN m' = w.drewN q) := Lib.hid (fun m' => ⟨q + m', by rw [hw, World.drewN_drewN]⟩)
      generalize bsT t = X at *
      generalize bsT u = U at *
      have q0 := eqT X X
      rw [decide_eq_true rfl] at q0
      have q1 := eqT U U
      rw [decide_eq_true rfl] at q1
      have q2 : (m == m) = true := by simp
      have j0 : (0 : Int) ≤ (k : Int) := by omega
      have j1 : (k : Int) < (n : Int) := by omega
      clear hx hw HQ
      go_wp2
      go_quiet (fail)
      go_wp2
      go_roundw
      case rel => exact ⟨k + 1, by omega, by go_num, Lib.hid (HMM.out _)⟩
      case measure => simp [intOf]; omega
    · obtain rfl : k = n := by omega
      clear hlt
      go_wp2
      go_ret
      exact ⟨rfl, HQ.out⟩
set_option maxRecDepth 100000 in
set_option maxHeartbeats 8000000 in
theorem told_any (v : Value) (l : List Sl) (hl : l.length ≤ 90000) (w : World) (h : HoldY w v l) : Calls Tryd.prog 10 #[v] w fun e w' => ∃ v', e = .returned v' ∧ HoldY w' v' l ∧ Below w.heap.size w w' := by
  obtain ⟨a, c, b, o, rfl, hc, ha, hcell⟩ := h.parts
  obtain ⟨i0, hi, hz0, hz1, hz2'⟩ := info_parts infoYr
  have HC := Lib.hid hcell
  obtain ⟨n, hN⟩ : ∃ n, l.length = n := ⟨_, rfl⟩
  rw [hN] at hc ha hl ⊢
  have HN := Lib.hid hN
  clear hcell hN h
  go_enter Tryd.func10, Tryd.ntmps10
  go_wp2
  go_loopw [3, 4] (fun u i wr => ∃ k : Nat, k ≤ n ∧ i = .int .i64 k ∧ Hid (OwnY 67 wr w.heap.size u (l.take k)) ∧ Hid (Below w.heap.size w wr)) (fun _ i _ => n - (intOf i).toNat)
  case atStart => exact ⟨0, by omega, rfl, Lib.hid (OwnV.nil _ _ _ _), Lib.hid (Below.refl _ _)⟩
  case round =>
    obtain ⟨k, hk, rfl, HO, HB⟩ := hrel
    have hsz := HB.out.size
    by_cases hlt : k < n
    · obtain ⟨rfl, hbw⟩ := ha (by omega)
      obtain ⟨⟨t, m, u⟩, hx⟩ : ∃ x, l[k]? = some x := ⟨_, List.getElem?_eq_getElem (by rw [HN.out]; exact hlt)⟩
      obtain ⟨c0, c1, c2⟩ := HC.out k _ hx
      dsimp only at c0 c1 c2
      rw [← HB.out.cell (p := ⟨b, o + k * 3, none⟩) hbw] at c0
      rw [← HB.out.cell (p := ⟨b, o + k * 3 + 1, none⟩) hbw] at c1
      rw [← HB.out.cell (p := ⟨b, o + k * 3 + 2, none⟩) hbw] at c2
      have hlk : (l.take k).length = k := by rw [List.length_take, HN.out]; omega
      have hsn : l.take (k + 1) = l.take k ++ [(t, m, u)] := by rw [List.take_add_one, hx]; rfl
      obtain ⟨ua, uc, hu⟩ := OwnV.form HO.out
      rw [List.length_map, hlk] at hu
      subst hu
      have HXX : Hid ((bsT t).data.toList = t) := Lib.hid (bytesOf _)
      have HUU : Hid ((bsT u).data.toList = u) := Lib.hid (bytesOf _)
      have HOK2 : Hid (wr.ownsRow w.heap.size 67 3 (.slice ua k uc) k ((l.take k).map cellsY).flatten) := Lib.hid (by have := HO.out.2; rw [List.length_map, hlk] at this; exact this)
      have HAPP : Hid (∀ v' w3, w3.ownsRow w.heap.size 67 3 v' (k + 1) (((l.take k).map cellsY).flatten ++ [.string (bsT t), .bool m, .string (bsT u)]) → OwnY 67 w3 w.heap.size v' (l.take (k + 1))) := Lib.hid (fun v' w3 h => by
        rw [hsn]
        exact OwnY.app (x := (t, m, u)) HXX.out HUU.out (by rw [hlk]; exact h))
      clear hx hlk hsn HO HXX HUU
      generalize bsT t = X at *
      generalize bsT u = U at *
      go_wp2_with (at_builtin; refine wpList_append_own _ rfl _ _ 32 rfl w.heap.size 67 i0 _ 3 40 Tryd.underlying32 hi hz0 hz1 hz2' rfl (by decide) _ _ _ rfl (World.ownsRow.alloc HOK2.out _) ⟨wr.heap.size, 0, none⟩ 1 1 [.string X, .bool m, .string U] rfl rfl ?c1 ?c2 ?c3 ?c4 ?c5 ?_)
      case c2 => exact ⟨rfl, rfl, rfl⟩
      case c3 => unfold maxLen; omega
      case c4 => omega
      case c5 => omega
      · intro v' w3 hown' hgrow _
        have HO3 := Lib.hid (HAPP.out _ _ (by rw [List.map_take]; exact hown'))
        have HB3 : Hid (Below w.heap.size w w3) := Lib.hid ((HB.out.alloc hsz _).grown hgrow (by simp; omega) (fun k hk => by have := (World.ownsRow.lt HOK2.out k hk).1; omega))
        clear hown' hgrow
        go_wp2
        go_roundw
        case rel => exact ⟨k + 1, by omega, by go_num, HO3, HB3⟩
        case measure => simp [intOf]; omega
    · obtain rfl : k = n := by omega
      have HO2 := HO.out
      rw [List.take_of_length_le (by rw [HN.out]; omega)] at HO2
      have HO3 := Lib.hid HO2.holds
      clear hlt HO HO2
      go_wp2
      go_ret
      exact ⟨_, rfl, HO3.out, HB.out⟩
abbrev exY : Sl := ([118, 105], false, [47, 98, 105, 110, 47, 97])
abbrev exYT : Bs := [118, 105, 32, 97, 117, 116, 111, 32, 47, 98, 105, 110, 47, 97, 10]
theorem exY_right : rightY exY = true := by decide +kernel
theorem exY_chk : chkY [exY] = 0 := by decide +kernel
theorem exY_text : textY [exY] = exYT := by decide +kernel
theorem exY_print : printY [exY] = (exYT, 0) := by rw [printY_ok exY_chk, exY_text]
theorem exY_parse : parseY exYT = some [exY] := by
  have := parse_textY exY_chk
  rwa [exY_text] at this
theorem exY_small : SmallY [exY] := fun x hx => by simp at hx; subst hx; decide
set_option maxRecDepth 100000 in
set_option maxHeartbeats 8000000 in
theorem awake30 (w : World) (hL : LaidP w) : Calls Tryd.prog 7 #[] w fun e w' => e = .returned (.bool true) ∧ Below w.heap.size w w' := by
  have PA := parseY_any ⟨#[118, 105, 32, 97, 117, 116, 111, 32, 47, 98, 105, 110, 47, 97, 10]⟩ (by decide) (by decide +kernel) w hL
  unfold PaPostY at PA
  have HPA : Hid (∀ v z (w' : World), (∀ l, parseY (ByteArray.mk #[118, 105, 32, 97, 117, 116, 111, 32, 47, 98, 105, 110, 47, 97, 10]).data.toList = some l → z = (0 : Int) ∧ HoldY w' v l) → z = 0 ∧ HoldY w' v [exY]) := Lib.hid (fun v z w' h => h _ exY_parse)
  have PR := fun v W (hb : Below w.heap.size w W) (h : HoldY W v [exY]) => printY_any v [exY] (by simp) exY_small W (hL.on hb) h
  unfold PrPostY at PR
  rw [exY_print] at PR
  have RI := fun W (hb : Below w.heap.size w W) => rightY_any exY (by decide) (by decide) W (hL.on hb)
  rw [exY_right] at RI
  have HF : Hid (∀ (W : World) v, HoldY W v [exY] → ∃ b o c, v = .slice (some ⟨b, o, none⟩) 1 c ∧ 1 ≤ c ∧ b < W.heap.size ∧ W.cell? ⟨b, o, none⟩ = some (.string ⟨#[118, 105]⟩) ∧ W.cell? ⟨b, o + 1, none⟩ = some (.bool false) ∧ W.cell? ⟨b, o + 2, none⟩ = some (.string ⟨#[47, 98, 105, 110, 47, 97]⟩)) := Lib.hid (fun W v h => by
    obtain ⟨a, c, b, o, rfl, hc, ha, hcell⟩ := h.parts
    obtain ⟨rfl, hb⟩ := ha (by simp)
    obtain ⟨c0, c1, c2⟩ := hcell 0 exY rfl
    exact ⟨b, o, c, rfl, hc, hb, by simpa using c0, by simpa using c1, by simpa using c2⟩)
  clear hL
  unfold aggY at RI
  dsimp only at RI
  go_enter Tryd.func7, Tryd.ntmps7
  go_wp2_with (first
    | (go_at_call 14; (with_reducible refine PA.mono ?_); rintro e w1 ⟨v1, z1, rfl, hp, -, hb⟩; obtain ⟨rfl, hv1⟩ := HPA.out _ _ _ hp; obtain ⟨b, o, c, rfl, hc, hbl, -⟩ := HF.out _ _ hv1; have HV1 := Lib.hid hv1; have HB1 := Lib.hid hb; clear hb hp hv1 PA)
    | (go_at_call 8; (with_reducible refine (PR _ _ HB1.out HV1.out).mono ?_); rintro e w2 ⟨rfl, hb⟩; have HB2 := Lib.hid (HB1.out.trans (hb.mono HB1.out.size)); have hv2 := HoldV.on HV1.out hb; obtain ⟨b', o', c', e', -, -, d0, d1, d2⟩ := HF.out _ _ hv2; cases e'; clear hb PR hv2)
    | (go_at_call 16; (with_reducible refine (RI _ HB2.out).mono ?_); rintro e w5 ⟨rfl, hb⟩; have HB5 := Lib.hid (HB2.out.trans (hb.mono HB2.out.size)); clear hb RI))
  go_ret
  exact ⟨rfl, HB5.out⟩
end Go.Proofs.YtoipggglmpcjfaaDoor
