/-
  The reference's Print of overrides: what it returns; nothing old turns.
-/
import Derived.Test.YtmjfbpiodamamaaGreatDoorOPrint
import Derived.Test.YtmjfbpiodamamaaGreatDoorORefChk
import Derived.Test.YtmjfbpiodamamaaGreatDoorTextsWalk
namespace Go.Proofs.YtmjfbpiodamamaaGreatDoor
open Go.RowKit
theorem box3i (W : World) (a b c : Value) (t : TypeId) : (W.alloc (.cells #[a, b, c] t)).cell? ⟨W.heap.size, 0, none⟩ = some a ∧ (W.alloc (.cells #[a, b, c] t)).cell? ⟨W.heap.size, 1, none⟩ = some b ∧ (W.alloc (.cells #[a, b, c] t)).cell? ⟨W.heap.size, 2, none⟩ = some c := boxV3 W a b c t
set_option maxRecDepth 100000 in
set_option maxHeartbeats 16000000 in
theorem printO_ref (v : Value) (l : List Ov) (hl : l.length ≤ 90000) (hs : SmallO l) (w : World) (h : HoldO w v l) : Calls Tryz.prog 10 #[v] w (PrPostO l w) := by
  have CK := checkO_ref v l hl hs w h
  by_cases hz : chkO l = 0
  case neg =>
    have HP : Hid (∀ w', Below w.heap.size w w' → PrPostO l w (.returned (.tuple #[.string ⟨#[]⟩, .int .i64 (chkO l)])) w') := Lib.hid (fun w' hb => ⟨by rw [printO_no hz], hb⟩)
    obtain ⟨a, c, b, o, rfl, -⟩ := h.parts
    have hzz : chkO l = 22 ∨ chkO l = 1 := by rcases chkO_ways l with g | g | g <;> simp_all
    generalize chkO l = z at *
    clear h hs
    generalize l.length = n at *
    rcases hzz with rfl | rfl
    all_goals
      clear hz
      go_enter Tryz.func10, Tryz.ntmps10
      go_wp2_with (go_at_call 12; refine CK.mono ?_; rintro e w1 ⟨rfl, hb⟩; have HB := Lib.hid hb; clear hb)
      go_ret2
      exact HP.out _ HB.out
  have HP : Hid (∀ (S : ByteArray) w', S.data.toList = textO l → Below w.heap.size w w' → PrPostO l w (.returned (.tuple #[.string S, .int .i64 0])) w') := Lib.hid (fun S w' hS hb => ⟨by rw [printO_ok hz]; show _ = Ending.returned (Value.tuple #[.string (bsT (textO l)), .int .i64 0]); rw [← hS, show bsT S.data.toList = S from (strOf (x := S) rfl).symm], hb⟩)
  rw [hz] at CK
  have hri := (chkO_zero hz).2.right
  have hlen := textO_len hri
  have h64 := (chkO_zero hz).1
  obtain ⟨a, c, b, o, rfl, hc, ha, hcell⟩ := h.parts
  have HC := Lib.hid hcell
  have HRI := Lib.hid hri
  obtain ⟨n, hN⟩ : ∃ n, l.length = n := ⟨_, rfl⟩
  rw [hN] at hc ha hl CK hlen h64 ⊢
  have HN := Lib.hid hN
  clear hcell hN h hs hz hri
  go_enter Tryz.func10, Tryz.ntmps10
  go_wp2_with (go_at_call 12; refine CK.mono ?_; rintro e w1 ⟨rfl, hb⟩; have HB1 := Lib.hid hb; clear hb)
  clear CK
  go_loopw [5, 6] (fun s i wr => ∃ (k : Nat) (S : ByteArray), k ≤ n ∧ i = .int .i64 k ∧ s = .string S ∧ Hid (S.data.toList ++ textO (l.drop k) = textO l) ∧ Hid (Below w.heap.size w wr)) (fun _ i _ => n - (intOf i).toNat)
  case atStart => exact ⟨0, ⟨#[]⟩, by omega, rfl, rfl, Lib.hid rfl, HB1⟩
  case round =>
    obtain ⟨k, S, hk, rfl, rfl, HO, HB⟩ := hrel
    have hsz := HB.out.size
    have hol : S.size ≤ 805 * n := by
      have := congrArg List.length HO.out
      rw [List.length_append, ← sizeOf] at this; omega
    by_cases hlt : k < n
    · obtain ⟨rfl, hbw⟩ := ha (by omega)
      obtain ⟨⟨p, m, u, g⟩, hx⟩ : ∃ x, l[k]? = some x := ⟨_, List.getElem?_eq_getElem (by rw [HN.out]; exact hlt)⟩
      obtain ⟨c0, c1, c2, c3⟩ := HC.out k _ hx
      have hr := HRI.out _ (List.mem_of_getElem? hx)
      obtain ⟨hrp, hm, hu, hg⟩ := rightO_parts hr
      have hpl := (right_parts hrp).2.2.2.2
      dsimp only at c0 c1 c2 c3 hm hu hg hpl
      rw [← HB.out.cell (p := ⟨b, o + k * 4, none⟩) hbw] at c0
      rw [← HB.out.cell (p := ⟨b, o + k * 4 + 1, none⟩) hbw] at c1
      rw [← HB.out.cell (p := ⟨b, o + k * 4 + 2, none⟩) hbw] at c2
      rw [← HB.out.cell (p := ⟨b, o + k * 4 + 3, none⟩) hbw] at c3
      have IU := fun W => bitsTextsw.text_ref u (by omega) (by omega) W
      have IG := fun W => bitsTextsw.text_ref g (by omega) (by omega) W
      have IO := fun W => octal_ref m W
      have lu := itoa_len u (by omega) (by omega)
      have lg := itoa_len g (by omega) (by omega)
      have lo : (octO m).length = 4 := by unfold octO; rw [digL_length]
      have HOX : Hid (S.data.toList ++ (lineO (p, m, u, g) ++ [10]) ++ textO (l.drop (k + 1)) = textO l) := Lib.hid (by rw [List.append_assoc, ← textO_drop hx, HO.out])
      have HLI : Hid (lineO (p, m, u, g) = idO u ++ 32 :: (idO g ++ 32 :: (octO m ++ 32 :: p))) := Lib.hid rfl
      clear hx HO hr hrp
      obtain ⟨X, hX⟩ : ∃ X, bsT p = X := ⟨_, rfl⟩
      obtain ⟨Y, hY⟩ : ∃ Y : ByteArray, (⟨(Lib.itoa u).toArray⟩ : ByteArray) = Y := ⟨_, rfl⟩
      obtain ⟨Z, hZ⟩ : ∃ Z : ByteArray, (⟨(Lib.itoa g).toArray⟩ : ByteArray) = Z := ⟨_, rfl⟩
      obtain ⟨T, hT⟩ : ∃ T : ByteArray, (⟨(digL 8 (nat64 m % 4096) 4).toArray⟩ : ByteArray) = T := ⟨_, rfl⟩
      have sX : X.size ≤ 200 := by rw [← hX, sizeOf, bytesOf]; exact hpl
      have sY : Y.size ≤ 20 := by rw [← hY, sizeOf, bytesOf]; exact lu
      have sZ : Z.size ≤ 20 := by rw [← hZ, sizeOf, bytesOf]; exact lg
      have sT : T.size ≤ 4 := by rw [← hT, sizeOf, bytesOf]; exact Nat.le_of_eq lo
      have HO2 : Hid ((S ++ ⟨#[35]⟩ ++ Y ++ ⟨#[32, 35]⟩ ++ Z ++ ⟨#[32]⟩ ++ T ++ ⟨#[32]⟩ ++ X ++ ⟨#[10]⟩ : ByteArray).data.toList ++ textO (l.drop (k + 1)) = textO l) := Lib.hid (by
        rw [← HOX.out, HLI.out, ← hX, ← hY, ← hZ, ← hT]
        simp [idO, octO])
      rw [hX] at c0
      rw [hY] at IU
      rw [hZ] at IG
      rw [hT] at IO
      have h1s : ∀ x, (ByteArray.mk #[x]).size = 1 := fun _ => rfl
      have h2s : ∀ x y, (ByteArray.mk #[x, y]).size = 2 := fun _ _ => rfl
      obtain ⟨x0, x1, x2⟩ := boxV3 wr (.int .i64 m) (.int .i64 u) (.int .i64 g) 39
      have B0 := (Below.refl wr.heap.size wr).alloc (Nat.le_refl _) (.cells #[.int .i64 m, .int .i64 u, .int .i64 g] 39)
      have y0 := (B0.cell (p := ⟨b, o + k * 4, none⟩) (World.block_lt_of_cell? wr _ c0)).trans c0
      have q1 : ¬ 9223372036854775807 < S.size + 1 := by omega
      have q2 : ¬ 9223372036854775807 < S.size + 1 + Y.size := by omega
      have q3 : ¬ 9223372036854775807 < S.size + 1 + Y.size + 2 := by omega
      have q4 : ¬ 9223372036854775807 < S.size + 1 + Y.size + 2 + Z.size := by omega
      have q5 : ¬ 9223372036854775807 < S.size + 1 + Y.size + 2 + Z.size + 1 := by omega
      have q6 : ¬ 9223372036854775807 < S.size + 1 + Y.size + 2 + Z.size + 1 + T.size := by omega
      have q7 : ¬ 9223372036854775807 < S.size + 1 + Y.size + 2 + Z.size + 1 + T.size + 1 := by omega
      have q8 : ¬ 9223372036854775807 < S.size + 1 + Y.size + 2 + Z.size + 1 + T.size + 1 + X.size := by omega
      have q9 : ¬ 9223372036854775807 < S.size + 1 + Y.size + 2 + Z.size + 1 + T.size + 1 + X.size + 1 := by omega
      have j0 : (0 : Int) ≤ (k : Int) := by omega
      have j1 : (k : Int) < (n : Int) := by omega
      have hs := And.intro x0 (And.intro x1 (And.intro x2 (And.intro y0 B0)))
      clear x0 x1 x2 y0 B0 hX hY hZ hT HOX HLI lu lg lo
      go_wp2
      generalize wr.alloc (.cells #[.int .i64 m, .int .i64 u, .int .i64 g] 39) = W3 at *
      obtain ⟨x0, x1, x2, y0, hB⟩ := hs
      have hs := And.intro x0 (And.intro x1 (And.intro x2 (And.intro y0 hB)))
      clear c0 c1 c2 c3
      have BE := fun (V : World) (h : V.cell? ⟨wr.heap.size, 0, none⟩ = some (.int .i64 m) ∧ V.cell? ⟨wr.heap.size, 1, none⟩ = some (.int .i64 u) ∧ V.cell? ⟨wr.heap.size, 2, none⟩ = some (.int .i64 g) ∧ V.cell? ⟨b, o + k * 4, none⟩ = some (.string X) ∧ Below wr.heap.size wr V) => AtF.be (w := wr) (l := [(⟨wr.heap.size, 0, none⟩, .int .i64 m), (⟨wr.heap.size, 1, none⟩, .int .i64 u), (⟨wr.heap.size, 2, none⟩, .int .i64 g), (⟨b, o + k * 4, none⟩, .string X)]) h
      go_region_held3 (fun V => V.cell? ⟨wr.heap.size, 0, none⟩ = some (.int .i64 m) ∧ V.cell? ⟨wr.heap.size, 1, none⟩ = some (.int .i64 u) ∧ V.cell? ⟨wr.heap.size, 2, none⟩ = some (.int .i64 g) ∧ V.cell? ⟨b, o + k * 4, none⟩ = some (.string X) ∧ Below wr.heap.size wr V)
        (first | assumption | exact hs | exact AtF.dr (w := wr) (l := [(⟨wr.heap.size, 0, none⟩, .int .i64 m), (⟨wr.heap.size, 1, none⟩, .int .i64 u), (⟨wr.heap.size, 2, none⟩, .int .i64 g), (⟨b, o + k * 4, none⟩, .string X)]) hs | exact AtF.dr (w := wr) (l := [(⟨wr.heap.size, 0, none⟩, .int .i64 m), (⟨wr.heap.size, 1, none⟩, .int .i64 u), (⟨wr.heap.size, 2, none⟩, .int .i64 g), (⟨b, o + k * 4, none⟩, .string X)]) (by assumption) | exact AtF.on (w := wr) (l := [(⟨wr.heap.size, 0, none⟩, .int .i64 m), (⟨wr.heap.size, 1, none⟩, .int .i64 u), (⟨wr.heap.size, 2, none⟩, .int .i64 g), (⟨b, o + k * 4, none⟩, .string X)]) (by assumption) (by assumption) | exact AtF.al (w := wr) (l := [(⟨wr.heap.size, 0, none⟩, .int .i64 m), (⟨wr.heap.size, 1, none⟩, .int .i64 u), (⟨wr.heap.size, 2, none⟩, .int .i64 g), (⟨b, o + k * 4, none⟩, .string X)]) (by assumption) _ | exact AtF.ald (w := wr) (l := [(⟨wr.heap.size, 0, none⟩, .int .i64 m), (⟨wr.heap.size, 1, none⟩, .int .i64 u), (⟨wr.heap.size, 2, none⟩, .int .i64 g), (⟨b, o + k * 4, none⟩, .string X)]) (by assumption) _ | exact AtF.al (w := wr) (l := [(⟨wr.heap.size, 0, none⟩, .int .i64 m), (⟨wr.heap.size, 1, none⟩, .int .i64 u), (⟨wr.heap.size, 2, none⟩, .int .i64 g), (⟨b, o + k * 4, none⟩, .string X)]) hs _ | exact AtF.ald (w := wr) (l := [(⟨wr.heap.size, 0, none⟩, .int .i64 m), (⟨wr.heap.size, 1, none⟩, .int .i64 u), (⟨wr.heap.size, 2, none⟩, .int .i64 g), (⟨b, o + k * 4, none⟩, .string X)]) hs _)
        (((first | (go_at_call 31; first | ((with_reducible refine (IU _).mono ?_); rintro e w3 ⟨rfl, rfl⟩) | ((with_reducible refine (IG _).mono ?_); rintro e w3 ⟨rfl, rfl⟩)) | (go_at_call 32; (with_reducible refine (IO _).mono ?_); rintro e w3 ⟨rfl, rfl⟩))))
      all_goals
        rename_i hHeld
        have HB3 := Lib.hid (HB.out.trans ((BE _ hHeld).mono hsz))
        clear hHeld hs BE hB x0 x1 x2 y0 IU IG IO
        go_wp2
        go_roundw
        case rel => exact ⟨k + 1, _, by omega, by go_num, rfl, HO2, HB3⟩
        case measure => simp [intOf]; omega
    · obtain rfl : k = n := by omega
      have HE : Hid (S.data.toList = textO l) := Lib.hid (by have := HO.out; rw [List.drop_of_length_le (by rw [HN.out]; omega)] at this; simpa [textO, ended10] using this)
      clear hlt HO
      go_wp2
      go_ret2
      exact HP.out _ _ HE.out HB.out
end Go.Proofs.YtmjfbpiodamamaaGreatDoor
