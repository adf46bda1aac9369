/-
  The program's Print of selections: what it returns; nothing old turns. Condition: LaidP.
-/
import Derived.Test.YtmfmohbcehkooaaGreatDoorYRead
import Derived.Test.YtmfmohbcehkooaaGreatDoorTBld
import Derived.StillTailTactics
import Derived.Shelf.Strings.MapGrows
namespace Go.Proofs.YtmfmohbcehkooaaGreatDoor
open Go.RowKit Go.Shelf
theorem wordsY_len {x : Sl} (h : rightY x = true) : ∀ p ∈ wordsY x, p.length ≤ 200 := fun p hp => by
  obtain ⟨h1, h2⟩ := rightY_parts h
  simp only [wordsY, List.mem_cons, List.not_mem_nil, or_false] at hp
  rcases hp with rfl | rfl | rfl
  · have := name_60 h1; omega
  · unfold wordY; cases x.2.1 <;> decide
  · exact (right_parts h2).2.2.2.2
theorem lineY_len {x : Sl} (h : rightY x = true) : (lineY x).length ≤ 603 := by
  have := joinC_len2 32 200 (wordsY x) (wordsY_len h)
  unfold lineY
  simpa [wordsY] using this
theorem textY_drop {l : List Sl} {k : Nat} {x : Sl} (h : l[k]? = some x) : textY (l.drop k) = (lineY x ++ [10]) ++ textY (l.drop (k + 1)) := by
  obtain ⟨hk, e⟩ := List.getElem?_eq_some_iff.1 h
  rw [List.drop_eq_getElem_cons hk, e]
  unfold textY ended10; rw [List.map_cons, List.flatMap_cons]
theorem textY_len : ∀ {l : List Sl}, (∀ x ∈ l, rightY x = true) → (textY l).length ≤ 604 * l.length
  | [], _ => by simp [textY, ended10]
  | x :: l, h => by
    have h1 := lineY_len (h x (by simp))
    have h2 := textY_len (l := l) (fun y hy => h y (by simp [hy]))
    have e : textY (x :: l) = (lineY x ++ [10]) ++ textY l := rfl
    rw [e, List.length_append, List.length_append, List.length_cons]
    simp only [List.length_cons, List.length_nil]; omega
theorem hold3 (W : World) (a b c : ByteArray) : HoldT (W.alloc (.cells #[.string a, .string b, .string c] 9)) (.slice (some ⟨W.heap.size, 0, none⟩) 3 3) [a.data.toList, b.data.toList, c.data.toList] := by
  obtain ⟨x0, x1, x2⟩ := boxV3 W (.string a) (.string b) (.string c) 9
  refine ⟨some ⟨W.heap.size, 0, none⟩, 3, W.heap.size, 0, rfl, Nat.le_refl _, fun _ => ⟨rfl, by simp⟩, fun j l hj => ?_⟩
  match j, hj with
  | 0, hj => simp at hj; subst hj; simp [x0]
  | 1, hj => simp at hj; subst hj; simp [x1]
  | 2, hj => simp at hj; subst hj; simp [x2]
theorem anyY (l : List Sl) : (l.any fun x => !rightY x) = !l.all rightY := by
  induction l with
  | nil => rfl
  | cons x l ih => rw [List.any_cons, List.all_cons, ih, Bool.not_and]
set_option maxRecDepth 100000 in
theorem enterW (args : Array Value) (w : World) : (callFunc 60 args).run Tryz.prog w = .ok (.enter 60 args) w := rfl
def PrPostY (l : List Sl) (w : World) (e : Ending) (w' : World) : Prop := e = .returned (.tuple #[.string (bsT (printY l).1), .int .i64 (printY l).2]) ∧ Below w.heap.size w w'
set_option maxRecDepth 100000 in
set_option maxHeartbeats 16000000 in
theorem printY_any (v : Value) (l : List Sl) (hl : l.length ≤ 90000) (hs : SmallY l) (w : World) (hL : LaidP w) (h : HoldY w v l) : Calls Tryz.prog 29 #[v] w (PrPostY l w) := by
  have CF := contY_any 60 #[] enterW (fun x => !rightY x) v l hl w h (fun W x hx hb => wrongY_any x (hs x hx).1 (hs x hx).2 W (hL.on hb))
  rw [anyY] at CF
  have HNO : Hid (∀ w', Below w.heap.size w w' → chkY l ≠ 0 → PrPostY l w (.returned (.tuple #[.string ⟨#[]⟩, .int .i64 (chkY l)])) w') := Lib.hid (fun w' hb hz => ⟨by rw [printY_no hz], hb⟩)
  by_cases h64 : 64 < l.length
  · have HP : Hid (∀ w', Below w.heap.size w w' → PrPostY l w (.returned (.tuple #[.string ⟨#[]⟩, .int .i64 22])) w') := Lib.hid (fun w' hb => by have := HNO.out w' hb (by rw [chkY_long h64]; decide); rwa [chkY_long h64] at this)
    obtain ⟨a, c, b, o, rfl, -⟩ := h.parts
    clear hs CF HNO h
    generalize l.length = n at *
    go_enter Tryz.func29, Tryz.ntmps29
    go_wp2
    go_ret2
    exact HP.out _ (Below.refl _ _)
  cases hall : l.all rightY with
  | false =>
    have HP : Hid (∀ w', Below w.heap.size w w' → PrPostY l w (.returned (.tuple #[.string ⟨#[]⟩, .int .i64 1])) w') := Lib.hid (fun w' hb => by have := HNO.out w' hb (by rw [chkY_no h64 hall]; decide); rwa [chkY_no h64 hall] at this)
    rw [hall] at CF
    obtain ⟨a, c, b, o, rfl, -⟩ := h.parts
    clear hs HNO h hall
    generalize l.length = n at *
    go_enter Tryz.func29, Tryz.ntmps29
    go_wp2_with (go_at_call 59; (with_reducible refine CF.mono ?_); rintro e w1 ⟨rfl, hb⟩; have HB := Lib.hid hb; clear hb CF)
    go_ret2
    exact HP.out _ HB.out
  | true =>
  have hz := chkY_ok h64 hall
  have HP : Hid (∀ (S : ByteArray) w', S.data.toList = textY l → Below w.heap.size w w' → PrPostY l w (.returned (.tuple #[.string S, .int .i64 0])) w') := Lib.hid (fun S w' hS hb => ⟨by rw [printY_ok hz]; show _ = Ending.returned (Value.tuple #[.string (bsT (textY l)), .int .i64 0]); rw [← hS, show bsT S.data.toList = S from (strOf (x := S) rfl).symm], hb⟩)
  rw [hall] at CF
  have hri := (chkY_zero hz).2
  have hlen := textY_len hri
  obtain ⟨a, c, b, o, rfl, hc, ha, hcell⟩ := h.parts
  have HC := Lib.hid hcell
  have HRI := Lib.hid hri
  obtain ⟨n, hN⟩ : ∃ n, l.length = n := ⟨_, rfl⟩
  rw [hN] at hc ha hl CF hlen h64 ⊢
  have HN := Lib.hid hN
  clear hcell hN h hs hz hL hri hall HNO
  go_enter Tryz.func29, Tryz.ntmps29
  go_wp2_with (go_at_call 59; (with_reducible refine CF.mono ?_); rintro e w1 ⟨rfl, hb⟩; have HB1 := Lib.hid hb; have hs1 := hb.size; clear hb)
  clear CF
  have HB2 : Hid (Below w.heap.size w (w1.alloc (.cells #[.pointer none, .slice none 0 0] tB))) := Lib.hid (HB1.out.alloc hs1 _)
  have HD0 := Lib.hid (bld_new w.heap.size w1 hs1)
  obtain ⟨bb, hbb⟩ : ∃ bb, bb = w1.heap.size := ⟨_, rfl⟩
  rw [← hbb] at HD0 ⊢
  have HEB := Lib.hid hbb
  clear hbb
  go_loopw [14] (fun i wr => ∃ (k : Nat) (out : Bs), k ≤ n ∧ i = .int .i64 k ∧ Hid (out ++ textY (l.drop k) = textY l) ∧ Hid (Bld w.heap.size bb out wr) ∧ bb < wr.heap.size ∧ Hid (Below w.heap.size w wr)) (fun i _ => n - (intOf i).toNat)
  case atStart => exact ⟨0, [], by omega, rfl, Lib.hid rfl, HD0, by rw [HEB.out]; simp, HB2⟩
  case round =>
    obtain ⟨k, out, hk, rfl, HO, HD, hbw2, HB⟩ := hrel
    have hsz := HB.out.size
    have hol : out.length ≤ 604 * n := by
      have := congrArg List.length HO.out
      rw [List.length_append] at this; omega
    by_cases hlt : k < n
    · obtain ⟨rfl, hbw⟩ := ha (by omega)
      obtain ⟨⟨p, m, u⟩, hx⟩ : ∃ x, l[k]? = some x := ⟨_, List.getElem?_eq_getElem (by rw [HN.out]; exact hlt)⟩
      obtain ⟨c0, c1, c2⟩ := HC.out k _ hx
      have hr := HRI.out _ (List.mem_of_getElem? hx)
      have hwl := wordsY_len hr
      have hll := lineY_len hr
      dsimp only at c0 c1 c2
      rw [← HB.out.cell (p := ⟨b, o + k * 3, none⟩) hbw] at c0
      rw [← HB.out.cell (p := ⟨b, o + k * 3 + 1, none⟩) hbw] at c1
      rw [← HB.out.cell (p := ⟨b, o + k * 3 + 2, none⟩) hbw] at c2
      have HOX : Hid (out ++ (lineY (p, m, u) ++ [10]) ++ textY (l.drop (k + 1)) = textY l) := Lib.hid (by rw [List.append_assoc, ← textY_drop hx, HO.out])
      clear hx HO hr
      obtain ⟨X, hX⟩ : ∃ X, bsT p = X := ⟨_, rfl⟩
      obtain ⟨Y, hY⟩ : ∃ Y, bsT (wordY m) = Y := ⟨_, rfl⟩
      obtain ⟨Z, hZ⟩ : ∃ Z, bsT u = Z := ⟨_, rfl⟩
      obtain ⟨J, hJ⟩ : ∃ J : ByteArray, bsT (lineY (p, m, u) ++ [10]) = J := ⟨_, rfl⟩
      have hJe : J.size = (lineY (p, m, u)).length + 1 := by rw [← hJ, sizeOf, bytesOf, List.length_append, List.length_singleton]
      have hJs : J.size ≤ 604 := by omega
      clear hJe
      have HJL : Hid (J.data.toList = lineY (p, m, u) ++ [10]) := Lib.hid (by rw [← hJ, bytesOf])
      have HWO : Hid (wordsY (p, m, u) = [X.data.toList, Y.data.toList, Z.data.toList]) := Lib.hid (by simp [← hX, ← hY, ← hZ, wordsY])
      have MO := fun W => mode_any m W
      rw [hY] at MO
      have LI : ∀ W : World, Calls Tryz.prog 33 #[.slice (some ⟨W.heap.size, 0, none⟩) 3 3] (W.alloc (.cells #[.string X, .string Y, .string Z] 9)) fun e w' => e = .returned (.string J) ∧ Below (W.alloc (.cells #[.string X, .string Y, .string Z] 9)).heap.size (W.alloc (.cells #[.string X, .string Y, .string Z] 9)) w' := fun W => by
        have := line_any _ _ (by simp) (by simp) (fun q hq => Nat.le_trans (hwl q (by rw [HWO.out]; exact hq)) (by omega)) _ (hold3 W X Y Z)
        rw [← HWO.out] at this
        rw [← hJ]; exact this
      obtain ⟨x0, x1, x2⟩ := boxV3 wr (.string X) (.bool m) (.string Z) 55
      have B0 := (Below.refl wr.heap.size wr).alloc (Nat.le_refl _) (.cells #[.string X, .bool m, .string Z] 55)
      rw [hX] at c0
      rw [hZ] at c2
      clear hX hY hZ hJ hwl hll
      have hs := And.intro x0 (And.intro x1 (And.intro x2 B0))
      clear x0 x1 x2 B0
      go_wp2
      generalize wr.alloc (.cells #[.string X, .bool m, .string Z] 55) = W3 at *
      obtain ⟨x0, x1, x2, hB⟩ := hs
      have y0 : World.cell? { W3 with drawn := W3.drawn + 1 } ⟨wr.heap.size, 0, none⟩ = some (.string X) := x0
      have y1 : World.cell? { W3 with drawn := W3.drawn + 1 } ⟨wr.heap.size, 1, none⟩ = some (.bool m) := x1
      have y2 : World.cell? { W3 with drawn := W3.drawn + 1 } ⟨wr.heap.size, 2, none⟩ = some (.string Z) := x2
      have M2 : ∀ W, Calls Tryz.prog 34 #[.bool m] W fun e w' => e = .returned (.string Y) ∧ w' = W := fun W => (MO W).mono fun e w' h => ⟨h.1, h.2.symm⟩
      have HBE := Lib.hid hB.drew
      have HBD := Lib.hid (Lib.IsBuilderF.below HD.out HBE.out)
      have HB3 := Lib.hid (HB.out.trans (HBE.out.mono hsz))
      have HO2 : Hid ((out ++ J.data.toList) ++ textY (l.drop (k + 1)) = textY l) := Lib.hid (by rw [HJL.out]; exact HOX.out)
      have hbw4 := Nat.lt_of_lt_of_le hbw2 HBE.out.size
      clear y0 y1 y2 hB MO HOX HWO HJL HD c0 c1 c2
      refine wp_region_still_tail 7 (by kernel_rfl) (by kernel_rfl) ?_
      simp only [List.take_succ_cons, List.take_zero, List.drop_succ_cons, List.drop_zero]
      repeat (first | still_step | still_call (M2 _))
      refine wpStill_nil ?_
      change wpList _ _ _ _ _ W3.drew
      clear x0 x1 x2 M2
      generalize W3.drew = W4 at *
      have HL1 := Lib.hid (fun W => LI W)
      clear LI
      go_wp2_with (first
        | (go_at_call 33; (with_reducible refine (HL1.out _).mono ?_); rintro e w5 ⟨rfl, hb⟩; have HBX := Lib.hid (((Below.refl W4.heap.size W4).alloc (Nat.le_refl _) (.cells #[.string X, .string Y, .string Z] 9)).trans (hb.mono (by simp))); have HBD5 := Lib.hid (Lib.IsBuilderF.below HBD.out HBX.out); have HB5 := Lib.hid (HB3.out.trans (HBX.out.mono HB3.out.size)); have hbw5 := Nat.lt_of_lt_of_le hbw4 HBX.out.size; clear hb)
        | (go_at_call 32; (with_reducible refine (wstr_any w.heap.size bb out _ w5 HBD5.out (by omega) (by omega) HB5.out.size).mono ?_); rintro e w6 ⟨v6, rfl, hd6, hb6, ho6⟩; have HD6 := Lib.hid hd6; have HB6 := Lib.hid (HB5.out.trans hb6); have hbw6 := Nat.lt_of_lt_of_le hbw5 hb6.size; clear hd6 hb6 ho6))
      go_roundw
      case rel => exact ⟨k + 1, _, by omega, by go_num, HO2, HD6, hbw6, HB6⟩
      case measure => simp [intOf]; omega
    · obtain rfl : k = n := by omega
      have HE : Hid (out = textY l) := Lib.hid (by have := HO.out; rw [List.drop_of_length_le (by rw [HN.out]; omega)] at this; simpa [textY, ended10] using this)
      have BS := bstr_any w.heap.size bb out wr HD.out hsz
      clear hlt HO
      go_wp2_with (go_at_call 36; refine BS.mono ?_; rintro e w3 ⟨rfl, hb3⟩; have HB3 := Lib.hid (HB.out.trans hb3); clear hb3)
      go_ret2
      exact HP.out _ _ (by rw [HE.out]) HB3.out
end Go.Proofs.YtmfmohbcehkooaaGreatDoor
