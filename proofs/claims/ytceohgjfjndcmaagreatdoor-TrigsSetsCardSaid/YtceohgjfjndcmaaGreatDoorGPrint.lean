/-
  The program's Print of interests, and the reference's: what each returns; nothing old turns. Condition of the program's: LaidP.
-/
import Derived.Test.YtceohgjfjndcmaaGreatDoorGCheck
import Derived.Test.YtceohgjfjndcmaaGreatDoorGRefChk
import Derived.Test.YtceohgjfjndcmaaGreatDoorTBld
namespace Go.Proofs.YtceohgjfjndcmaaGreatDoor
open Go.RowKit Go.Shelf
def PrPostI (l : List It) (w : World) (e : Ending) (w' : World) : Prop := e = .returned (.tuple #[.string (bsT (printI l).1), .int .i64 (printI l).2]) ∧ Below w.heap.size w w'
theorem textI_drop {l : List It} {k : Nat} {x : It} (h : l[k]? = some x) : textI (l.drop k) = (lineI x ++ [10]) ++ textI (l.drop (k + 1)) := by
  obtain ⟨hk, e⟩ := List.getElem?_eq_some_iff.1 h
  rw [List.drop_eq_getElem_cons hk, e]
  unfold textI ended10; rw [List.map_cons, List.flatMap_cons]
theorem tailI_len (x : It) : (tailI x).length ≤ 8 := by unfold tailI; split <;> simp [noaw]
theorem textI_len : ∀ {l : List It}, SmallI l → (textI l).length ≤ 8010 * l.length
  | [], _ => by simp [textI, ended10]
  | x :: l, h => by
    have h1 := h x (by simp)
    have h2 := textI_len (l := l) (fun y hy => h y (by simp [hy]))
    have h3 := tailI_len x
    have e : textI (x :: l) = (lineI x ++ [10]) ++ textI l := rfl
    rw [e, List.length_append, List.length_append, List.length_cons]
    unfold lineI
    simp only [List.length_append, List.length_cons, List.length_nil]; omega
theorem lineI_yes (X Y : ByteArray) (x : It) (hX : X.data.toList = x.1) (hY : Y.data.toList = x.2.1) (hz : x.2.2 = true) (s : Bs) : s ++ (X ++ ⟨#[32]⟩ ++ Y : ByteArray).data.toList ++ (ByteArray.mk #[47, 110, 111, 97, 119, 97, 105, 116]).data.toList ++ (ByteArray.mk #[10]).data.toList = s ++ (lineI x ++ [10]) := by
  unfold lineI tailI noaw
  rw [hz, ← hX, ← hY]; simp
theorem lineI_no (X Y : ByteArray) (x : It) (hX : X.data.toList = x.1) (hY : Y.data.toList = x.2.1) (hz : x.2.2 = false) (s : Bs) : s ++ (X ++ ⟨#[32]⟩ ++ Y : ByteArray).data.toList ++ (ByteArray.mk #[10]).data.toList = s ++ (lineI x ++ [10]) := by
  unfold lineI tailI
  rw [hz, ← hX, ← hY]; simp
set_option maxRecDepth 100000 in
set_option maxHeartbeats 16000000 in
theorem printI_any (v : Value) (l : List It) (hl : l.length ≤ 90000) (hs : SmallI l) (w : World) (hL : LaidP w) (h : HoldI w v l) : Calls Tryz.prog 9 #[v] w (PrPostI l w) := by
  have CK := checkI_any v l hl hs w hL h
  by_cases hz : chkI l = 0
  case neg =>
    have HP : Hid (∀ w', Below w.heap.size w w' → PrPostI l w (.returned (.tuple #[.string ⟨#[]⟩, .int .i64 (chkI l)])) w') := Lib.hid (fun w' hb => ⟨by rw [printI_no hz], hb⟩)
    obtain ⟨a, c, b, o, rfl, hc, ha, hcell⟩ := h.parts
    have hzz : chkI l = 22 ∨ chkI l = 1 := by rcases chkI_ways l with g | g | g <;> simp_all
    generalize chkI l = z at *
    clear hcell ha h hs
    generalize l.length = n at *
    rcases hzz with rfl | rfl
    all_goals
      clear hz
      go_enter Tryz.func9, Tryz.ntmps9
      go_wp2_with (go_at_call 11; refine CK.mono ?_; rintro e w1 ⟨rfl, hb⟩; have HB := Lib.hid hb; clear hb)
      go_ret2
      exact HP.out _ HB.out
  have HP : Hid (∀ (S : ByteArray) w', S.data.toList = textI l → Below w.heap.size w w' → PrPostI l w (.returned (.tuple #[.string S, .int .i64 0])) w') := Lib.hid (fun S w' hS hb => ⟨by rw [printI_ok hz]; show _ = Ending.returned (Value.tuple #[.string (bsT (textI l)), .int .i64 0]); rw [← hS, show bsT S.data.toList = S from (strOf (x := S) rfl).symm], hb⟩)
  rw [hz] at CK
  have hlen := textI_len hs
  have h64 := (chkI_zero hz).1
  obtain ⟨a, c, b, o, rfl, hc, ha, hcell⟩ := h.parts
  have HC := Lib.hid hcell
  have HS := Lib.hid hs
  obtain ⟨n, hN⟩ : ∃ n, l.length = n := ⟨_, rfl⟩
  rw [hN] at hc ha hl CK hlen h64 ⊢
  have HN := Lib.hid hN
  clear hcell hN h hs hz hL
  go_enter Tryz.func9, Tryz.ntmps9
  go_wp2_with (go_at_call 11; refine CK.mono ?_; rintro e w1 ⟨rfl, hb⟩; have HB1 := Lib.hid hb; have hs1 := hb.size; clear hb)
  clear CK
  have HB2 : Hid (Below w.heap.size w (w1.alloc (.cells #[.pointer none, .slice none 0 0] tB))) := Lib.hid (HB1.out.alloc hs1 _)
  have HD0 := Lib.hid (bld_new w.heap.size w1 hs1)
  obtain ⟨bb, hbb⟩ : ∃ bb, bb = w1.heap.size := ⟨_, rfl⟩
  rw [← hbb] at HD0 ⊢
  have HEB := Lib.hid hbb
  clear hbb
  go_loopw [15] (fun i wr => ∃ (k : Nat) (out : Bs), k ≤ n ∧ i = .int .i64 k ∧ Hid (out ++ textI (l.drop k) = textI l) ∧ Hid (Bld w.heap.size bb out wr) ∧ bb < wr.heap.size ∧ Hid (Below w.heap.size w wr)) (fun i _ => n - (intOf i).toNat)
  case atStart => exact ⟨0, [], by omega, rfl, Lib.hid rfl, HD0, by rw [HEB.out]; simp, HB2⟩
  case round =>
    obtain ⟨k, out, hk, rfl, HO, HD, hbw2, HB⟩ := hrel
    have hsz := HB.out.size
    have hol : out.length ≤ 8010 * n := by
      have := congrArg List.length HO.out
      rw [List.length_append] at this; omega
    by_cases hlt : k < n
    · obtain ⟨rfl, hbw⟩ := ha (by omega)
      obtain ⟨x, hx⟩ : ∃ x, l[k]? = some x := ⟨_, List.getElem?_eq_getElem (by rw [HN.out]; exact hlt)⟩
      obtain ⟨c0, c1, c2⟩ := HC.out k x hx
      rw [← HB.out.cell (p := ⟨b, o + k * 3, none⟩) hbw] at c0
      rw [← HB.out.cell (p := ⟨b, o + k * 3 + 1, none⟩) hbw] at c1
      rw [← HB.out.cell (p := ⟨b, o + k * 3 + 2, none⟩) hbw] at c2
      have hsx := HS.out x (List.mem_of_getElem? hx)
      obtain ⟨X, hX⟩ : ∃ X, X = bsT x.1 := ⟨_, rfl⟩
      obtain ⟨Y, hY⟩ : ∃ Y, Y = bsT x.2.1 := ⟨_, rfl⟩
      obtain ⟨z, hz⟩ : ∃ z, z = x.2.2 := ⟨_, rfl⟩
      have hXs : X.size ≤ 4000 := by rw [hX, sizeOf, bytesOf]; omega
      have hYs : Y.size ≤ 4000 := by rw [hY, sizeOf, bytesOf]; omega
      have HOX : Hid ((out ++ (lineI x ++ [10])) ++ textI (l.drop (k + 1)) = textI l) := Lib.hid (by rw [List.append_assoc, ← textI_drop hx, HO.out])
      have HLY : Hid (z = true → out ++ (X ++ ⟨#[32]⟩ ++ Y : ByteArray).data.toList ++ (ByteArray.mk #[47, 110, 111, 97, 119, 97, 105, 116]).data.toList ++ (ByteArray.mk #[10]).data.toList ++ textI (l.drop (k + 1)) = textI l) := Lib.hid (fun g => by
        rw [lineI_yes X Y x (by rw [hX, bytesOf]) (by rw [hY, bytesOf]) (by rw [← hz]; exact g), HOX.out])
      have HLN : Hid (z = false → out ++ (X ++ ⟨#[32]⟩ ++ Y : ByteArray).data.toList ++ (ByteArray.mk #[10]).data.toList ++ textI (l.drop (k + 1)) = textI l) := Lib.hid (fun g => by
        rw [lineI_no X Y x (by rw [hX, bytesOf]) (by rw [hY, bytesOf]) (by rw [← hz]; exact g), HOX.out])
      rw [← hX] at c0
      rw [← hY] at c1
      rw [← hz] at c2
      have h1s : ∀ x, (ByteArray.mk #[x]).size = 1 := fun _ => rfl
      have hsX : (X ++ ⟨#[32]⟩ ++ Y : ByteArray).size ≤ 1000000 := by simp only [ByteArray.size_append, h1s]; omega
      have hsX2 : (X ++ ⟨#[32]⟩ ++ Y : ByteArray).data.toList.length ≤ 9000 := by rw [← sizeOf]; simp only [ByteArray.size_append, h1s]; omega
      have hbx : (wr.alloc (.cells #[.string X, .string Y, .bool z] 53)).heap[wr.heap.size]? = some (.cells #[.string X, .string Y, .bool z] 53 (0, 0)) := heap_alloc_new wr _
      have HB0 := Lib.hid (HB.out.alloc hsz (.cells #[.string X, .string Y, .bool z] 53))
      have HD2 := Lib.hid (HD.out.alloc (.cells #[.string X, .string Y, .bool z] 53))
      obtain ⟨x0, x1, x2⟩ := boxV3 wr (.string X) (.string Y) (.bool z) 53
      have hne : wr.heap.size ≠ bb := by omega
      have WS1 := wstr_any w.heap.size bb out (X ++ ⟨#[32]⟩ ++ Y) _ HD2.out (by omega) hsX HB0.out.size
      have WS2 := fun W (h : Bld w.heap.size bb (out ++ (X ++ ⟨#[32]⟩ ++ Y : ByteArray).data.toList) W) hb => wstr_any w.heap.size bb _ ⟨#[47, 110, 111, 97, 119, 97, 105, 116]⟩ W h (by rw [List.length_append]; omega) (by decide) hb
      have WS3 := fun u W (h : Bld w.heap.size bb u W) hu hb => wstr_any w.heap.size bb u ⟨#[10]⟩ W h hu (by decide) hb
      have q1 : ¬ 9223372036854775807 < X.size + 1 := by omega
      have q2 : ¬ 9223372036854775807 < X.size + 1 + Y.size := by omega
      have HL4 : Hid ((out ++ (X ++ ⟨#[32]⟩ ++ Y : ByteArray).data.toList ++ (ByteArray.mk #[47, 110, 111, 97, 119, 97, 105, 116]).data.toList).length ≤ 100000000000) := Lib.hid (by rw [List.length_append, List.length_append, show (ByteArray.mk #[47, 110, 111, 97, 119, 97, 105, 116]).data.toList.length = 8 from rfl]; omega)
      have HBX := Lib.hid hbx
      clear hX hY hx hsx HO HC HS HD hbx hz h1s HOX
      cases z
      · have HLN2 := Lib.hid (HLN.out rfl)
        clear HLY HLN
        go_wp2_with (go_at_call 33; first
          | ((with_reducible refine WS1.mono ?_); rintro e w3 ⟨v3, rfl, hd3, hb3, ho3⟩; have HD3 := Lib.hid hd3; have HB3 := Lib.hid (HB0.out.trans hb3); have hz3 := hb3.size; have hh := heap_oth HBX.out ho3 hne (by decide); have y2 := cell_heap (i := 2) hh rfl; clear hd3 hb3 WS1 hh ho3)
          | ((with_reducible refine (WS3 _ _ HD3.out (by rw [List.length_append]; omega) HB3.out.size).mono ?_); rintro e w5 ⟨v5, rfl, hd5, hb5, -⟩; have HD5 := Lib.hid hd5; have HB5 := Lib.hid (HB3.out.trans hb5); have hz5 := hb5.size; clear hd5 hb5 WS3))
        go_roundw
        case rel => exact ⟨k + 1, _, by omega, by go_num, HLN2, HD5, by have h9 := World.size_alloc wr (.cells #[.string X, .string Y, .bool false] 53); rw [h9] at hz3; omega, HB5⟩
        case measure => simp [intOf]; omega
      · have HLY2 := Lib.hid (HLY.out rfl)
        clear HLY HLN
        go_wp2_with (go_at_call 33; first
          | ((with_reducible refine WS1.mono ?_); rintro e w3 ⟨v3, rfl, hd3, hb3, ho3⟩; have HD3 := Lib.hid hd3; have HB3 := Lib.hid (HB0.out.trans hb3); have hz3 := hb3.size; have hh := heap_oth HBX.out ho3 hne (by decide); have y2 := cell_heap (i := 2) hh rfl; clear hd3 hb3 WS1 hh ho3)
          | ((with_reducible refine (WS2 _ HD3.out HB3.out.size).mono ?_); rintro e w4 ⟨v4, rfl, hd4, hb4, -⟩; have HD4 := Lib.hid hd4; have HB4 := Lib.hid (HB3.out.trans hb4); have hz4 := hb4.size; clear hd4 hb4 WS2)
          | ((with_reducible refine (WS3 _ _ HD4.out HL4.out HB4.out.size).mono ?_); rintro e w5 ⟨v5, rfl, hd5, hb5, -⟩; have HD5 := Lib.hid hd5; have HB5 := Lib.hid (HB4.out.trans hb5); have hz5 := hb5.size; clear hd5 hb5 WS3))
        go_roundw
        case rel => exact ⟨k + 1, _, by omega, by go_num, HLY2, HD5, by have h9 := World.size_alloc wr (.cells #[.string X, .string Y, .bool true] 53); rw [h9] at hz3; omega, HB5⟩
        case measure => simp [intOf]; omega
    · obtain rfl : k = n := by omega
      have HE : Hid (out = textI l) := Lib.hid (by have := HO.out; rw [List.drop_of_length_le (by rw [HN.out]; omega)] at this; simpa [textI, ended10] using this)
      have BS := bstr_any w.heap.size bb out wr HD.out hsz
      clear hlt HO
      go_wp2_with (go_at_call 34; refine BS.mono ?_; rintro e w3 ⟨rfl, hb3⟩; have HB3 := Lib.hid (HB.out.trans hb3); clear hb3)
      go_ret2
      exact HP.out _ _ (by rw [HE.out]) HB3.out
set_option maxRecDepth 100000 in
set_option maxHeartbeats 16000000 in
theorem printI_ref (v : Value) (l : List It) (hl : l.length ≤ 90000) (hs : SmallI l) (w : World) (h : HoldI w v l) : Calls Tryz.prog 10 #[v] w (PrPostI l w) := by
  have CK := checkI_ref v l hl hs w h
  by_cases hz : chkI l = 0
  case neg =>
    have HP : Hid (∀ w', Below w.heap.size w w' → PrPostI l w (.returned (.tuple #[.string ⟨#[]⟩, .int .i64 (chkI l)])) w') := Lib.hid (fun w' hb => ⟨by rw [printI_no hz], hb⟩)
    obtain ⟨a, c, b, o, rfl, hc, ha, hcell⟩ := h.parts
    have hzz : chkI l = 22 ∨ chkI l = 1 := by rcases chkI_ways l with g | g | g <;> simp_all
    generalize chkI l = z at *
    clear hcell ha h hs
    generalize l.length = n at *
    rcases hzz with rfl | rfl
    all_goals
      clear hz
      go_enter Tryz.func10, Tryz.ntmps10
      go_wp2_with (go_at_call 12; refine CK.mono ?_; rintro e w1 ⟨rfl, hb⟩; have HB := Lib.hid hb; clear hb)
      go_ret2
      exact HP.out _ HB.out
  have HP : Hid (∀ (S : ByteArray) w', S.data.toList = textI l → Below w.heap.size w w' → PrPostI l w (.returned (.tuple #[.string S, .int .i64 0])) w') := Lib.hid (fun S w' hS hb => ⟨by rw [printI_ok hz]; show _ = Ending.returned (Value.tuple #[.string (bsT (textI l)), .int .i64 0]); rw [← hS, show bsT S.data.toList = S from (strOf (x := S) rfl).symm], hb⟩)
  rw [hz] at CK
  have hlen := textI_len hs
  have h64 := (chkI_zero hz).1
  obtain ⟨a, c, b, o, rfl, hc, ha, hcell⟩ := h.parts
  have HC := Lib.hid hcell
  have HS := Lib.hid hs
  obtain ⟨n, hN⟩ : ∃ n, l.length = n := ⟨_, rfl⟩
  rw [hN] at hc ha hl CK hlen h64 ⊢
  have HN := Lib.hid hN
  clear hcell hN h hs hz
  go_enter Tryz.func10, Tryz.ntmps10
  go_wp2_with (go_at_call 12; refine CK.mono ?_; rintro e w1 ⟨rfl, hb⟩; have HB1 := Lib.hid hb; clear hb)
  clear CK
  go_loopw [5, 6] (fun s i wr => ∃ (k : Nat) (S : ByteArray), k ≤ n ∧ i = .int .i64 k ∧ s = .string S ∧ Hid (S.data.toList ++ textI (l.drop k) = textI l) ∧ Hid (Below w.heap.size w wr)) (fun _ i _ => n - (intOf i).toNat)
  case atStart => exact ⟨0, ⟨#[]⟩, by omega, rfl, rfl, Lib.hid rfl, HB1⟩
  case round =>
    obtain ⟨k, S, hk, rfl, rfl, HO, HB⟩ := hrel
    have hol : S.size ≤ 8010 * n := by
      have := congrArg List.length HO.out
      rw [List.length_append, ← sizeOf] at this; omega
    by_cases hlt : k < n
    · obtain ⟨rfl, hbw⟩ := ha (by omega)
      obtain ⟨x, hx⟩ : ∃ x, l[k]? = some x := ⟨_, List.getElem?_eq_getElem (by rw [HN.out]; exact hlt)⟩
      obtain ⟨c0, c1, c2⟩ := HC.out k x hx
      rw [← HB.out.cell (p := ⟨b, o + k * 3, none⟩) hbw] at c0
      rw [← HB.out.cell (p := ⟨b, o + k * 3 + 1, none⟩) hbw] at c1
      rw [← HB.out.cell (p := ⟨b, o + k * 3 + 2, none⟩) hbw] at c2
      have hsx := HS.out x (List.mem_of_getElem? hx)
      obtain ⟨X, hX⟩ : ∃ X, X = bsT x.1 := ⟨_, rfl⟩
      obtain ⟨Y, hY⟩ : ∃ Y, Y = bsT x.2.1 := ⟨_, rfl⟩
      obtain ⟨z, hz⟩ : ∃ z, z = x.2.2 := ⟨_, rfl⟩
      have hXs : X.size ≤ 4000 := by rw [hX, sizeOf, bytesOf]; omega
      have hYs : Y.size ≤ 4000 := by rw [hY, sizeOf, bytesOf]; omega
      have HOX : Hid ((S.data.toList ++ (lineI x ++ [10])) ++ textI (l.drop (k + 1)) = textI l) := Lib.hid (by rw [List.append_assoc, ← textI_drop hx, HO.out])
      have HLY : Hid (z = true → (S ++ X ++ ⟨#[32]⟩ ++ Y ++ ⟨#[47, 110, 111, 97, 119, 97, 105, 116]⟩ ++ ⟨#[10]⟩ : ByteArray).data.toList ++ textI (l.drop (k + 1)) = textI l) := Lib.hid (fun g => by
        rw [← HOX.out, ← lineI_yes X Y x (by rw [hX, bytesOf]) (by rw [hY, bytesOf]) (by rw [← hz]; exact g)]; simp)
      have HLN : Hid (z = false → (S ++ X ++ ⟨#[32]⟩ ++ Y ++ ⟨#[10]⟩ : ByteArray).data.toList ++ textI (l.drop (k + 1)) = textI l) := Lib.hid (fun g => by
        rw [← HOX.out, ← lineI_no X Y x (by rw [hX, bytesOf]) (by rw [hY, bytesOf]) (by rw [← hz]; exact g)]; simp)
      rw [← hX] at c0
      rw [← hY] at c1
      rw [← hz] at c2
      have h1s : ∀ x, (ByteArray.mk #[x]).size = 1 := fun _ => rfl
      have h8s : (ByteArray.mk #[47, 110, 111, 97, 119, 97, 105, 116]).size = 8 := rfl
      have k0 : (0 : Int) ≤ (k : Int) := by omega
      have k1 : (k : Int) < (n : Int) := by omega
      have HMM : Hid (∀ m', Below w.heap.size w (wr.drewN m')) := Lib.hid (fun m' => belowQ HB.out m')
      clear hX hY hx hsx HO HC HS hz HOX
      have q1 : ¬ 9223372036854775807 < S.size + X.size := by omega
      have q2 : ¬ 9223372036854775807 < S.size + X.size + 1 := by omega
      have q3 : ¬ 9223372036854775807 < S.size + X.size + 1 + Y.size := by omega
      have q4 : ¬ 9223372036854775807 < S.size + X.size + 1 + Y.size + 1 := by omega
      have q5 : ¬ 9223372036854775807 < S.size + X.size + 1 + Y.size + 8 := by omega
      have q6 : ¬ 9223372036854775807 < S.size + X.size + 1 + Y.size + 8 + 1 := by omega
      cases z
      · have HL2 := Lib.hid (HLN.out rfl)
        clear HLY HLN
        go_wp2
        go_quiet (fail)
        go_wp2
        go_roundw
        case rel => exact ⟨k + 1, _, by omega, by go_num, rfl, HL2, Lib.hid (HMM.out _)⟩
        case measure => simp [intOf]; omega
      · have HL2 := Lib.hid (HLY.out rfl)
        clear HLY HLN
        go_wp2
        go_quiet (fail)
        go_wp2
        go_roundw
        case rel => exact ⟨k + 1, _, by omega, by go_num, rfl, HL2, Lib.hid (HMM.out _)⟩
        case measure => simp [intOf]; omega
    · obtain rfl : k = n := by omega
      have HE : Hid (S.data.toList = textI l) := Lib.hid (by have := HO.out; rw [List.drop_of_length_le (by rw [HN.out]; omega)] at this; simpa [textI, ended10] using this)
      clear hlt HO
      go_wp2
      go_ret2
      exact HP.out _ _ HE.out HB.out
end Go.Proofs.YtceohgjfjndcmaaGreatDoor
