/-
  The reference's Print of diversions: what it returns; nothing old turns.
-/
import Derived.Test.YtgjnhnaccdmbjaaDoorDPrint
import Derived.Test.YtgjnhnaccdmbjaaDoorDRefChk
namespace Go.Proofs.YtgjnhnaccdmbjaaDoor
open Go.RowKit Go.Shelf
set_option maxRecDepth 100000 in
set_option maxHeartbeats 16000000 in
theorem print9_ref (v : Value) (l : List Dv) (hl : l.length ≤ 90000) (hs : SmallD l) (w : World) (h : HoldD w v l) : Calls Tryd.prog 11 #[v] w (PrPost l w) := by
  have CK := check9_ref v l hl hs w h
  unfold ChkPost at CK
  by_cases hz : checkD l = 0
  case neg =>
    have HP : Hid (∀ w', Below w.heap.size w w' → PrPost l w (.returned (.tuple #[.string ⟨#[]⟩, .int .i64 (checkD l)])) w') := Lib.hid (fun w' hb => ⟨by rw [printD_no hz], hb⟩)
    obtain ⟨a, c, b, o, rfl, hc, ha, hcell⟩ := h.parts
    have hzz : checkD l = 22 ∨ checkD l = 1 := by rcases checkD_ways l with g | g | g <;> simp_all
    generalize checkD l = z at *
    clear hcell ha h hs
    generalize l.length = n at *
    rcases hzz with rfl | rfl
    all_goals
      clear hz
      go_enter Tryd.func11, Tryd.ntmps11
      go_wp2_with (go_at_call 13; refine CK.mono ?_; rintro e w1 ⟨rfl, hb⟩; have HB := Lib.hid hb; clear hb)
      go_ret2
      exact HP.out _ HB.out
  have HP : Hid (∀ (S : ByteArray) w', S.data.toList = textD l → Below w.heap.size w w' → PrPost l w (.returned (.tuple #[.string S, .int .i64 0])) w') := Lib.hid (fun S w' hS hb => ⟨by rw [printD_ok hz]; show _ = Ending.returned (Value.tuple #[.string (bsA (textD l)), .int .i64 0]); rw [← hS, show bsA S.data.toList = S from (strOf (x := S) rfl).symm], hb⟩)
  rw [hz] at CK
  have hlen := textD_len hs
  have h64 := (checkD_zero hz).1
  obtain ⟨a, c, b, o, rfl, hc, ha, hcell⟩ := h.parts
  have HC := Lib.hid hcell
  have HS := Lib.hid hs
  obtain ⟨n, hN⟩ : ∃ n, l.length = n := ⟨_, rfl⟩
  rw [hN] at hc ha hl CK hlen h64 ⊢
  have HN := Lib.hid hN
  clear hcell hN h hs hz
  go_enter Tryd.func11, Tryd.ntmps11
  go_wp2_with (go_at_call 13; refine CK.mono ?_; rintro e w1 ⟨rfl, hb⟩; have HB1 := Lib.hid hb; clear hb)
  clear CK
  go_loopw [5, 6] (fun s i wr => ∃ (k : Nat) (S : ByteArray), k ≤ n ∧ i = .int .i64 k ∧ s = .string S ∧ Hid (S.data.toList ++ textD (l.drop k) = textD l) ∧ Hid (Below w.heap.size w wr)) (fun _ i _ => n - (intOf i).toNat)
  case atStart => exact ⟨0, ⟨#[]⟩, by omega, rfl, rfl, Lib.hid rfl, HB1⟩
  case round =>
    obtain ⟨k, S, hk, rfl, rfl, HO, HB⟩ := hrel
    have hol : S.size ≤ 12004 * n := by
      have := congrArg List.length HO.out
      rw [List.length_append, ← sizeOf] at this; omega
    by_cases hlt : k < n
    · obtain ⟨rfl, hbw⟩ := ha (by omega)
      obtain ⟨x, hx⟩ : ∃ x, l[k]? = some x := ⟨_, List.getElem?_eq_getElem (by rw [HN.out]; exact hlt)⟩
      obtain ⟨c0, c1, c2⟩ := HC.out k x hx
      rw [← HB.out.cell (p := ⟨b, o + k * 3, none⟩) hbw] at c0
      rw [← HB.out.cell (p := ⟨b, o + k * 3 + 1, none⟩) hbw] at c1
      rw [← HB.out.cell (p := ⟨b, o + k * 3 + 2, none⟩) hbw] at c2
      have hsx := HS.out x (List.mem_of_getElem? hx)
      obtain ⟨X, hX⟩ : ∃ X, X = bsA x.1 := ⟨_, rfl⟩
      obtain ⟨Y, hY⟩ : ∃ Y, Y = bsA x.2.1 := ⟨_, rfl⟩
      obtain ⟨Z, hZ⟩ : ∃ Z, Z = bsA x.2.2 := ⟨_, rfl⟩
      have hXs : X.size ≤ 4000 := by rw [hX, sizeOf, bytesOf]; omega
      have hYs : Y.size ≤ 4000 := by rw [hY, sizeOf, bytesOf]; omega
      have hZs : Z.size ≤ 4000 := by rw [hZ, sizeOf, bytesOf]; omega
      have HO2 : Hid ((S ++ X ++ ⟨#[10]⟩ ++ Y ++ ⟨#[10]⟩ ++ orT Z ⟨#[58]⟩ ++ ⟨#[10]⟩ : ByteArray).data.toList ++ textD (l.drop (k + 1)) = textD l) := Lib.hid (by
        have e : (S ++ X ++ ⟨#[10]⟩ ++ Y ++ ⟨#[10]⟩ ++ orT Z ⟨#[58]⟩ ++ ⟨#[10]⟩ : ByteArray).data.toList = S.data.toList ++ (X ++ ⟨#[10]⟩ ++ Y ++ ⟨#[10]⟩ ++ orT Z ⟨#[58]⟩ ++ ⟨#[10]⟩ : ByteArray).data.toList := by simp only [ByteArray.data_append, Array.toList_append, List.append_assoc]
        rw [e, rowT_is, hX, hY, hZ, bytesOf, bytesOf, bytesOf, List.append_assoc, ← HO.out, textD_drop hx])
      rw [← hX] at c0
      rw [← hY] at c1
      rw [← hZ] at c2
      have h1s : ∀ x, (ByteArray.mk #[x]).size = 1 := fun _ => rfl
      have k0 : (0 : Int) ≤ (k : Int) := by omega
      have k1 : (k : Int) < (n : Int) := by omega
      have he := byEmpty Z
      have HMM : Hid (∀ m', Below w.heap.size w (wr.drewN m')) := Lib.hid (fun m' => belowQ HB.out m')
      clear hX hY hZ hx hsx HO HC HS
      have q1 : ¬ 9223372036854775807 < S.size + X.size := by omega
      have q2 : ¬ 9223372036854775807 < S.size + X.size + 1 := by omega
      have q3 : ¬ 9223372036854775807 < S.size + X.size + 1 + Y.size := by omega
      have q4 : ¬ 9223372036854775807 < S.size + X.size + 1 + Y.size + 1 := by omega
      by_cases hz0 : Z.data.toList = []
      · rw [decide_eq_true hz0] at he
        have HO3 : Hid ((S ++ X ++ ⟨#[10]⟩ ++ Y ++ ⟨#[10]⟩ ++ ⟨#[58]⟩ ++ ⟨#[10]⟩ : ByteArray).data.toList ++ textD (l.drop (k + 1)) = textD l) := Lib.hid (by
          have := HO2.out; unfold orT at this; rw [if_pos hz0] at this; exact this)
        have q5 : ¬ 9223372036854775807 < S.size + X.size + 1 + Y.size + 1 + 1 := by omega
        have q6 : ¬ 9223372036854775807 < S.size + X.size + 1 + Y.size + 1 + 1 + 1 := by omega
        clear hz0 HO2
        go_wp2
        go_quiet (fail)
        go_wp2
        go_roundw
        case rel => exact ⟨k + 1, _, by omega, by go_num, rfl, HO3, Lib.hid (HMM.out _)⟩
        case measure => simp [intOf]; omega
      · rw [decide_eq_false hz0] at he
        have HO3 : Hid ((S ++ X ++ ⟨#[10]⟩ ++ Y ++ ⟨#[10]⟩ ++ Z ++ ⟨#[10]⟩ : ByteArray).data.toList ++ textD (l.drop (k + 1)) = textD l) := Lib.hid (by
          have := HO2.out; unfold orT at this; rw [if_neg hz0] at this; exact this)
        have q5 : ¬ 9223372036854775807 < S.size + X.size + 1 + Y.size + 1 + Z.size := by omega
        have q6 : ¬ 9223372036854775807 < S.size + X.size + 1 + Y.size + 1 + Z.size + 1 := by omega
        clear hz0 HO2
        go_wp2
        go_quiet (fail)
        go_wp2
        go_roundw
        case rel => exact ⟨k + 1, _, by omega, by go_num, rfl, HO3, Lib.hid (HMM.out _)⟩
        case measure => simp [intOf]; omega
    · obtain rfl : k = n := by omega
      have HE : Hid (S.data.toList = textD l) := Lib.hid (by have := HO.out; rw [List.drop_of_length_le (by rw [HN.out]; omega)] at this; simpa [textD] using this)
      clear hlt HO
      go_wp2
      go_ret2
      exact HP.out _ _ HE.out HB.out
end Go.Proofs.YtgjnhnaccdmbjaaDoor
