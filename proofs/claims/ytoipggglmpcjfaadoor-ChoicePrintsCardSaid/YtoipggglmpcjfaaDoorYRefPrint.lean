/-
  The reference's Print of selections: what it returns; nothing old turns.
-/
import Derived.Test.YtoipggglmpcjfaaDoorYPrint
import Derived.Test.YtoipggglmpcjfaaDoorPNameRef
import Derived.Test.YtoipggglmpcjfaaDoorPCleanRef
import Derived.Deep.RegionHeld3
namespace Go.Proofs.YtoipggglmpcjfaaDoor
open Go.RowKit
theorem textY_snoc {l : List Sl} {k : Nat} {x : Sl} (h : l[k]? = some x) : textY (l.take (k + 1)) = textY (l.take k) ++ (lineY x ++ [10]) := by
  rw [List.take_add_one, h]
  unfold textY
  rw [List.map_append]
  simp [ended10]
theorem all_notY {l : List Sl} {x : Sl} (h : x ∈ l) (hr : rightY x = false) : l.all rightY = false := by
  rw [List.all_eq_false]
  exact ⟨x, h, by rw [hr]; decide⟩
set_option maxRecDepth 100000 in
set_option maxHeartbeats 16000000 in
theorem printY_ref (v : Value) (l : List Sl) (hl : l.length ≤ 90000) (hs : SmallY l) (w : World) (h : HoldY w v l) : Calls Tryd.prog 9 #[v] w (PrPostY l w) := by
  have HNO : Hid (∀ w', Below w.heap.size w w' → chkY l ≠ 0 → PrPostY l w (.returned (.tuple #[.string ⟨#[]⟩, .int .i64 (chkY l)])) w') := Lib.hid (fun w' hb hz => ⟨by rw [printY_no hz], hb⟩)
  by_cases h64 : 64 < l.length
  · have HP : Hid (∀ w', Below w.heap.size w w' → PrPostY l w (.returned (.tuple #[.string ⟨#[]⟩, .int .i64 22])) w') := Lib.hid (fun w' hb => by have := HNO.out w' hb (by rw [chkY_long h64]; decide); rwa [chkY_long h64] at this)
    obtain ⟨a, c, b, o, rfl, -⟩ := h.parts
    clear hs HNO h
    generalize l.length = n at *
    go_enter Tryd.func9, Tryd.ntmps9
    go_wp2
    go_ret2
    exact HP.out _ (Below.refl _ _)
  have HBAD : Hid (∀ w' x, x ∈ l → rightY x = false → Below w.heap.size w w' → PrPostY l w (.returned (.tuple #[.string ⟨#[]⟩, .int .i64 1])) w') := Lib.hid (fun w' x hx hr hb => by
    have hz := chkY_no h64 (all_notY hx hr)
    have := HNO.out w' hb (by rw [hz]; decide); rwa [hz] at this)
  have HP : Hid (∀ (S : ByteArray) w', (∀ x ∈ l, rightY x = true) → S.data.toList = textY l → Below w.heap.size w w' → PrPostY l w (.returned (.tuple #[.string S, .int .i64 0])) w') := Lib.hid (fun S w' ha hS hb => ⟨by rw [printY_ok (chkY_ok h64 (List.all_eq_true.2 ha))]; show _ = Ending.returned (Value.tuple #[.string (bsT (textY l)), .int .i64 0]); rw [← hS, show bsT S.data.toList = S from (strOf (x := S) rfl).symm], hb⟩)
  obtain ⟨a, c, b, o, rfl, hc, ha, hcell⟩ := h.parts
  have HC := Lib.hid hcell
  have HS := Lib.hid hs
  obtain ⟨n, hN⟩ : ∃ n, l.length = n := ⟨_, rfl⟩
  rw [hN] at hc ha hl h64 ⊢
  have HN := Lib.hid hN
  clear hcell hN h hs HNO
  go_enter Tryd.func9, Tryd.ntmps9
  go_wp2
  go_loopw [4, 5] (fun s i wr => ∃ (k : Nat) (S : ByteArray), k ≤ n ∧ i = .int .i64 k ∧ s = .string S ∧ Hid (S.data.toList = textY (l.take k)) ∧ Hid (∀ x ∈ l.take k, rightY x = true) ∧ Hid (Below w.heap.size w wr)) (fun _ i _ => n - (intOf i).toNat)
  case atStart => exact ⟨0, ⟨#[]⟩, by omega, rfl, rfl, Lib.hid rfl, Lib.hid (by simp), Lib.hid (Below.refl _ _)⟩
  case round =>
    obtain ⟨k, S, hk, rfl, rfl, HO, HA, HB⟩ := hrel
    have hsz := HB.out.size
    have hol : S.size ≤ 604 * k := by
      have h1 := textY_len HA.out
      have h2 : (l.take k).length ≤ k := List.length_take_le _ _
      rw [sizeOf, HO.out]
      have := Nat.mul_le_mul_left 604 h2
      omega
    have hol2 : S.size ≤ 60400 := by omega
    clear hol
    by_cases hlt : k < n
    · obtain ⟨rfl, hbw⟩ := ha (by omega)
      obtain ⟨⟨p, m, u⟩, hx⟩ : ∃ x, l[k]? = some x := ⟨_, List.getElem?_eq_getElem (by rw [HN.out]; exact hlt)⟩
      obtain ⟨c0, c1, c2⟩ := HC.out k _ hx
      have hm := List.mem_of_getElem? hx
      obtain ⟨s1, s2⟩ := HS.out _ hm
      dsimp only at c0 c1 c2 s1 s2
      rw [← HB.out.cell (p := ⟨b, o + k * 3, none⟩) hbw] at c0
      rw [← HB.out.cell (p := ⟨b, o + k * 3 + 1, none⟩) hbw] at c1
      rw [← HB.out.cell (p := ⟨b, o + k * 3 + 2, none⟩) hbw] at c2
      have NA : Calls Tryd.prog 23 #[.string (bsT p)] wr fun e w' => e = .returned (.bool (nameB p)) ∧ wr = w' := by
        have := name_ref (bsT p) (by rw [sizeOf, bytesOf]; exact s1) wr
        rwa [bytesOf] at this
      have RI : ∀ W, Calls Tryd.prog 24 #[.string (bsT u)] W fun e w' => e = .returned (.bool (right u)) ∧ Below W.heap.size W w' := fun W => by
        have := right_ref (bsT u) (by rw [sizeOf, bytesOf]; exact s2) W
        rwa [bytesOf] at this
      cases hn : nameB p with
      | false =>
        have HX : Hid (∀ w', Below w.heap.size w w' → PrPostY l w (.returned (.tuple #[.string ⟨#[]⟩, .int .i64 1])) w') := Lib.hid (fun w' hb => HBAD.out w' _ hm (by unfold rightY; rw [hn]; rfl) hb)
        rw [hn] at NA
        clear hx hm s1 s2 hn RI HA HO
        generalize bsT p = X at *
        generalize bsT u = U at *
        go_wp2_with (go_at_call 23; (with_reducible refine NA.mono ?_); rintro e w1 ⟨rfl, rfl⟩)
        go_ret2
        exact HX.out _ HB.out
      | true =>
      rw [hn] at NA
      cases hr : right u with
      | false =>
        have HX : Hid (∀ w', Below w.heap.size w w' → PrPostY l w (.returned (.tuple #[.string ⟨#[]⟩, .int .i64 1])) w') := Lib.hid (fun w' hb => HBAD.out w' _ hm (by unfold rightY; rw [hn, hr]; rfl) hb)
        simp only [hr] at RI
        clear hx hm s1 s2 hn hr HA HO
        generalize bsT p = X at *
        generalize bsT u = U at *
        go_wp2_with (first
          | (go_at_call 23; (with_reducible refine NA.mono ?_); rintro e w1 ⟨rfl, rfl⟩)
          | (go_at_call 24; (with_reducible refine (RI _).mono ?_); rintro e w2 ⟨rfl, hb⟩; have HB2 := Lib.hid (HB.out.trans (hb.mono hsz)); clear hb RI))
        go_ret2
        exact HX.out _ HB2.out
      | true =>
        have hrr : rightY (p, m, u) = true := by unfold rightY; rw [hn, hr]; rfl
        have HA2 : Hid (∀ x ∈ l.take (k + 1), rightY x = true) := Lib.hid (fun x hx2 => by
          rw [List.take_add_one, hx] at hx2
          rcases List.mem_append.1 hx2 with g | g
          · exact HA.out x g
          · simp at g; subst g; exact hrr)
        have HO2 : Hid (textY (l.take (k + 1)) = S.data.toList ++ (p ++ 32 :: (wordY m ++ 32 :: u) ++ [10])) := Lib.hid (by rw [textY_snoc hx, HO.out]; rfl)
        simp only [hr] at RI
        have lp := name_60 hn
        have lu := (right_parts hr).2.2.2.2
        have lm : (wordY m).length ≤ 6 := by unfold wordY; cases m <;> decide
        have MO := fun W => word_ref30 m W
        clear hx hm s1 s2 hn hr HA HO hrr
        obtain ⟨X, hX⟩ : ∃ X, bsT p = X := ⟨_, rfl⟩
        obtain ⟨Y, hY⟩ : ∃ Y, bsT (wordY m) = Y := ⟨_, rfl⟩
        obtain ⟨U, hU⟩ : ∃ U, bsT u = U := ⟨_, rfl⟩
        have sX : X.size ≤ 60 := by rw [← hX, sizeOf, bytesOf]; exact lp
        have sY : Y.size ≤ 6 := by rw [← hY, sizeOf, bytesOf]; exact lm
        have sU : U.size ≤ 200 := by rw [← hU, sizeOf, bytesOf]; exact lu
        have HO3 : Hid ((S ++ X ++ ⟨#[32]⟩ ++ Y ++ ⟨#[32]⟩ ++ U ++ ⟨#[10]⟩ : ByteArray).data.toList = textY (l.take (k + 1))) := Lib.hid (by
          rw [HO2.out, ← hX, ← hY, ← hU]; simp)
        rw [hX] at c0 NA
        rw [hY] at MO
        rw [hU] at c2 RI
        have h1s : ∀ x, (ByteArray.mk #[x]).size = 1 := fun _ => rfl
        have q1 : ¬ 9223372036854775807 < S.size + X.size := by omega
        have q2 : ¬ 9223372036854775807 < S.size + X.size + 1 := by omega
        have q3 : ¬ 9223372036854775807 < S.size + X.size + 1 + Y.size := by omega
        have q4 : ¬ 9223372036854775807 < S.size + X.size + 1 + Y.size + 1 := by omega
        have q5 : ¬ 9223372036854775807 < S.size + X.size + 1 + Y.size + 1 + U.size := by omega
        have q6 : ¬ 9223372036854775807 < S.size + X.size + 1 + Y.size + 1 + U.size + 1 := by omega
        clear lp lu lm hX hY hU HO2
        have HC0 : Hid (∀ W, Below wr.heap.size wr W → W.cell? ⟨b, o + k * 3, none⟩ = some (.string X) ∧ W.cell? ⟨b, o + k * 3 + 1, none⟩ = some (.bool m) ∧ W.cell? ⟨b, o + k * 3 + 2, none⟩ = some (.string U)) := Lib.hid (fun W hW => ⟨(hW.cell (World.block_lt_of_cell? wr _ c0)).trans c0, (hW.cell (World.block_lt_of_cell? wr _ c1)).trans c1, (hW.cell (World.block_lt_of_cell? wr _ c2)).trans c2⟩)
        go_wp2_with (first
          | (go_at_call 23; (with_reducible refine NA.mono ?_); rintro e w1 ⟨rfl, rfl⟩)
          | (go_at_call 24; (with_reducible refine (RI _).mono ?_); rintro e w2 ⟨rfl, hb⟩; obtain ⟨d0, d1, d2⟩ := HC0.out _ hb; have HB2 := Lib.hid (HB.out.trans (hb.mono hsz)); have hB := Below.refl w2.heap.size w2; clear hb RI))
        have hs := And.intro d0 (And.intro d1 (And.intro d2 hB))
        have j0 : (0 : Int) ≤ (k : Int) := by omega
        have j1 : (k : Int) < (n : Int) := by omega
        clear c0 c1 c2 d0 d1 d2 HC0
        have BE := fun (V : World) (h : V.cell? ⟨b, o + k * 3, none⟩ = some (.string X) ∧ V.cell? ⟨b, o + k * 3 + 1, none⟩ = some (.bool m) ∧ V.cell? ⟨b, o + k * 3 + 2, none⟩ = some (.string U) ∧ Below w2.heap.size w2 V) => AtF.be (w := w2) (l := [(⟨b, o + k * 3, none⟩, .string X), (⟨b, o + k * 3 + 1, none⟩, .bool m), (⟨b, o + k * 3 + 2, none⟩, .string U)]) h
        go_region_held3 (fun V => V.cell? ⟨b, o + k * 3, none⟩ = some (.string X) ∧ V.cell? ⟨b, o + k * 3 + 1, none⟩ = some (.bool m) ∧ V.cell? ⟨b, o + k * 3 + 2, none⟩ = some (.string U) ∧ Below w2.heap.size w2 V)
          (first | assumption | exact hs | exact AtF.dr (w := w2) (l := [(⟨b, o + k * 3, none⟩, .string X), (⟨b, o + k * 3 + 1, none⟩, .bool m), (⟨b, o + k * 3 + 2, none⟩, .string U)]) hs | exact AtF.dr (w := w2) (l := [(⟨b, o + k * 3, none⟩, .string X), (⟨b, o + k * 3 + 1, none⟩, .bool m), (⟨b, o + k * 3 + 2, none⟩, .string U)]) (by assumption) | exact AtF.on (w := w2) (l := [(⟨b, o + k * 3, none⟩, .string X), (⟨b, o + k * 3 + 1, none⟩, .bool m), (⟨b, o + k * 3 + 2, none⟩, .string U)]) (by assumption) (by assumption) | exact AtF.al (w := w2) (l := [(⟨b, o + k * 3, none⟩, .string X), (⟨b, o + k * 3 + 1, none⟩, .bool m), (⟨b, o + k * 3 + 2, none⟩, .string U)]) (by assumption) _ | exact AtF.ald (w := w2) (l := [(⟨b, o + k * 3, none⟩, .string X), (⟨b, o + k * 3 + 1, none⟩, .bool m), (⟨b, o + k * 3 + 2, none⟩, .string U)]) (by assumption) _ | exact AtF.al (w := w2) (l := [(⟨b, o + k * 3, none⟩, .string X), (⟨b, o + k * 3 + 1, none⟩, .bool m), (⟨b, o + k * 3 + 2, none⟩, .string U)]) hs _ | exact AtF.ald (w := w2) (l := [(⟨b, o + k * 3, none⟩, .string X), (⟨b, o + k * 3 + 1, none⟩, .bool m), (⟨b, o + k * 3 + 2, none⟩, .string U)]) hs _)
          ((((go_at_call 25; (with_reducible refine (MO _).mono ?_); rintro e w3 ⟨rfl, rfl⟩))))
        all_goals
          rename_i hHeld
          have HB3 := Lib.hid (HB2.out.trans ((BE _ hHeld).mono HB2.out.size))
          clear hHeld hs BE hB MO
          go_wp2
          go_roundw
          case rel => exact ⟨k + 1, _, by omega, by go_num, rfl, HO3, HA2, HB3⟩
          case measure => simp [intOf]; omega
    · obtain rfl : k = n := by omega
      have hall := HA.out
      have hO := HO.out
      rw [List.take_of_length_le (by rw [HN.out]; omega)] at hall hO
      have H1 := Lib.hid hall
      have H2 := Lib.hid hO
      clear hall hO hlt HO HA
      go_wp2
      go_ret2
      exact HP.out _ _ H1.out H2.out HB.out
end Go.Proofs.YtoipggglmpcjfaaDoor
