/-
  The reference's PrintFired: what it returns; nothing old turns.
-/
import Derived.Test.YtceohgjfjndcmaaGreatDoorGRefChkF
import Derived.Test.YtceohgjfjndcmaaGreatDoorGPrintF
namespace Go.Proofs.YtceohgjfjndcmaaGreatDoor
open Go.RowKit
def tailsF (l : List Bs) : Bs := l.flatMap fun p => 32 :: p
theorem tailsF_snoc {l : List Bs} {t : Nat} {x : Bs} (h : l[t]? = some x) : tailsF (l.take (t + 1)) = tailsF (l.take t) ++ 32 :: x := by
  unfold tailsF
  rw [List.take_add_one, h, List.flatMap_append]; simp
theorem lineF_tails (x : Fr) : lineF x = x.1 ++ (tailsF x.2 ++ if x.2 = [] then [32, 45] else []) := by
  unfold lineF byF tailsF
  by_cases h : x.2 = []
  · rw [if_pos h, if_pos h, h]; rfl
  · rw [if_neg h, if_neg h, flat_join 32 _ h]; simp
theorem tailsF_len (N : Nat) : ∀ (l : List Bs) (t : Nat), (∀ p ∈ l, p.length ≤ N) → (tailsF (l.take t)).length ≤ l.length * (N + 1)
  | [], t, _ => by simp [tailsF]
  | x :: l, 0, _ => by simp [tailsF]
  | x :: l, t + 1, h => by
    have h1 := tailsF_len N l t (fun p hp => h p (List.mem_cons_of_mem _ hp))
    have h2 := h x (by simp)
    rw [List.take_succ_cons, List.length_cons, Nat.add_mul]
    unfold tailsF at h1 ⊢
    rw [List.flatMap_cons, List.length_append, List.length_cons]; omega
set_option maxRecDepth 100000 in
set_option maxHeartbeats 16000000 in
theorem printF_ref (v : Value) (L : List Fp) (hl : L.length ≤ 90000) (hs : SmallF L) (w : World) (h : HoldF w v L) : Calls Tryz.prog 17 #[v] w (PrPostF (L.map (·.1)) w) := by
  have CK := chkF_ref v L hl hs w h
  obtain ⟨l, hLl⟩ : ∃ l, L.map (·.1) = l := ⟨_, rfl⟩
  rw [hLl] at CK ⊢
  by_cases hz : chkF l = 0
  case neg =>
    have HP : Hid (∀ w', Below w.heap.size w w' → PrPostF l w (.returned (.tuple #[.string ⟨#[]⟩, .int .i64 (chkF l)])) w') := Lib.hid (fun w' hb => ⟨by rw [printFr_no hz], hb⟩)
    obtain ⟨a, c, b, o, rfl, -⟩ := h.parts
    have hzz : chkF l = 22 ∨ chkF l = 1 := by rcases chkF_ways l with g | g | g <;> simp_all
    generalize chkF l = z at *
    clear h hs hLl
    generalize L.length = n at *
    rcases hzz with rfl | rfl
    all_goals
      clear hz
      go_enter Tryz.func17, Tryz.ntmps17
      go_wp2_with (go_at_call 19; refine CK.mono ?_; rintro e w1 ⟨rfl, hb⟩; have HB := Lib.hid hb; clear hb)
      go_ret2
      exact HP.out _ HB.out
  have HP : Hid (∀ (S : ByteArray) w', S.data.toList = textF l → Below w.heap.size w w' → PrPostF l w (.returned (.tuple #[.string S, .int .i64 0])) w') := Lib.hid (fun S w' hS hb => ⟨by rw [printFr_ok hz]; show _ = Ending.returned (Value.tuple #[.string (bsT (textF l)), .int .i64 0]); rw [← hS, show bsT S.data.toList = S from (strOf (x := S) rfl).symm], hb⟩)
  rw [hz] at CK
  have hri := (chkF_zero hz).2.right
  have hlen := textF_len hri
  have h64 := (chkF_zero hz).1
  have hin := h.1
  obtain ⟨a, c, b, o, rfl, hc, ha, hcell⟩ := h.parts
  have HC := Lib.hid hcell
  have HI := Lib.hid hin
  have HRI : Hid (∀ (i : Nat) p, L[i]? = some p → rightF p.1 = true ∧ l[i]? = some p.1) := Lib.hid (fun i p hp => by
    have h1 : l[i]? = some p.1 := by rw [← hLl, List.getElem?_map, hp]; rfl
    exact ⟨hri _ (List.mem_of_getElem? h1), h1⟩)
  obtain ⟨n, hN⟩ : ∃ n, L.length = n := ⟨_, rfl⟩
  have hln : l.length = n := by rw [← hLl, List.length_map, hN]
  rw [hln] at hlen h64
  rw [hN] at hc ha hl CK ⊢
  have HN := Lib.hid hN
  have HLN := Lib.hid hln
  clear hcell hN h hs hz hin hri hln hLl
  go_enter Tryz.func17, Tryz.ntmps17
  go_wp2_with (go_at_call 19; refine CK.mono ?_; rintro e w1 ⟨rfl, hb⟩; have HB1 := Lib.hid hb; have hs1 := hb.size; clear hb)
  clear CK
  go_loop [5, 6] (fun s i => ∃ (k : Nat) (S : ByteArray), k ≤ n ∧ i = .int .i64 k ∧ s = .string S ∧ Hid (S.data.toList ++ textF (l.drop k) = textF l)) (fun _ i => n - (intOf i).toNat)
  case atStart => exact ⟨0, ⟨#[]⟩, by omega, rfl, rfl, Lib.hid rfl⟩
  case round =>
    obtain ⟨k, S, hk, rfl, rfl, HO⟩ := hrel
    have hol : S.size ≤ 4110 * n := by
      have := congrArg List.length HO.out
      rw [List.length_append, ← sizeOf] at this; omega
    by_cases hlt : k < n
    · obtain ⟨rfl, hbw⟩ := ha (by omega)
      obtain ⟨p, hp⟩ : ∃ p, L[k]? = some p := ⟨_, List.getElem?_eq_getElem (by rw [HN.out]; exact hlt)⟩
      obtain ⟨c0, c1⟩ := HC.out k p hp
      rw [← HB1.out.cell (p := ⟨b, o + k * 2, none⟩) hbw] at c0
      rw [← HB1.out.cell (p := ⟨b, o + k * 2 + 1, none⟩) hbw] at c1
      obtain ⟨hr, hx⟩ := HRI.out k p hp
      have HH := (HI.out p (List.mem_of_getElem? hp)).on HB1.out
      obtain ⟨g1, g2⟩ := lineF_len hr
      have hby := by_names (rightF_parts hr).2
      have hb64 := (chkG_zero (rightF_parts hr).2).1
      obtain ⟨X, hX⟩ : ∃ X, X = bsT p.1.1 := ⟨_, rfl⟩
      have hXs : X.size ≤ 200 := by rw [hX, sizeOf, bytesOf]; omega
      obtain ⟨ps, hps⟩ : ∃ ps, p.1.2 = ps := ⟨_, rfl⟩
      have HLI : Hid (lineF p.1 = X.data.toList ++ (tailsF ps ++ if ps = [] then [32, 45] else [])) := Lib.hid (by rw [lineF_tails, hX, bytesOf, hps])
      have HOX : Hid (S.data.toList ++ (lineF p.1 ++ [10]) ++ textF (l.drop (k + 1)) = textF l) := Lib.hid (by rw [List.append_assoc, ← textF_drop hx, HO.out])
      rw [hps] at HH hby hb64
      have HTL : Hid (∀ t, (tailsF (ps.take t)).length ≤ 3904) := Lib.hid (fun t => by
        have := tailsF_len 60 ps t (fun q hq => name_len (hby q hq))
        have h3 : ps.length * 61 ≤ 64 * 61 := Nat.mul_le_mul_right _ hb64
        omega)
      have HPS : Hid (∀ q ∈ ps, q.length ≤ 60) := Lib.hid (fun q hq => name_len (hby q hq))
      obtain ⟨ai, ci, bi, oi, hu, hci, hai, hcelli⟩ := HH
      obtain ⟨m, hM⟩ : ∃ m, ps.length = m := ⟨_, rfl⟩
      rw [hu, hM] at c1
      rw [← hX] at c0
      rw [hM] at hci hai hb64
      have HCI := Lib.hid hcelli
      have HM := Lib.hid hM
      have h1s : ∀ x, (ByteArray.mk #[x]).size = 1 := fun _ => rfl
      have q1 : ¬ 9223372036854775807 < S.size + X.size := by omega
      clear hX hx hp HO HC HI HRI hr hby g1 g2 hu hM hcelli hps
      go_wp2
      go_loop [5, 7] (fun s j => ∃ (t : Nat) (T : ByteArray), t ≤ m ∧ j = .int .i64 t ∧ s = .string T ∧ Hid (T.data.toList = S.data.toList ++ X.data.toList ++ tailsF (ps.take t))) (fun _ j => m - (intOf j).toNat)
      case atStart => exact ⟨0, S ++ X, by omega, rfl, rfl, Lib.hid (by simp [tailsF])⟩
      case round =>
        obtain ⟨t, T, ht, rfl, rfl, HT⟩ := hrel
        have hTs : T.size ≤ S.size + X.size + 3904 := by
          rw [sizeOf, HT.out, List.length_append, List.length_append, ← sizeOf, ← sizeOf]
          have := HTL.out t; omega
        by_cases htm : t < m
        · obtain ⟨rfl, hbi⟩ := hai (by omega)
          obtain ⟨f, hf⟩ : ∃ f, ps[t]? = some f := ⟨_, List.getElem?_eq_getElem (by rw [HM.out]; exact htm)⟩
          have g1 := HCI.out t f hf
          have hf6 := HPS.out f (List.mem_of_getElem? hf)
          obtain ⟨Y, hY⟩ : ∃ Y : ByteArray, Y = ⟨f.toArray⟩ := ⟨_, rfl⟩
          have hYs : Y.size ≤ 60 := by rw [hY, sizeOf, bytesOf]; omega
          have HT2 : Hid ((T ++ ⟨#[32]⟩ ++ Y : ByteArray).data.toList = S.data.toList ++ X.data.toList ++ tailsF (ps.take (t + 1))) := Lib.hid (by
            have e : (T ++ ⟨#[32]⟩ ++ Y : ByteArray).data.toList = T.data.toList ++ 32 :: Y.data.toList := by simp
            rw [e, HT.out, tailsF_snoc hf, hY, bytesOf]; simp)
          rw [← hY] at g1
          have q2 : ¬ 9223372036854775807 < T.size + 1 := by omega
          have q3 : ¬ 9223372036854775807 < T.size + 1 + Y.size := by omega
          clear hf hY HT hf6
          go_wp2
          go_round
          case rel => exact ⟨t + 1, _, by omega, by go_num, rfl, HT2⟩
          case measure => simp [intOf]; omega
        · obtain rfl : t = m := by omega
          have HT3 : Hid (T.data.toList = S.data.toList ++ X.data.toList ++ tailsF ps) := Lib.hid (by rw [HT.out, List.take_of_length_le (by rw [HM.out]; omega)])
          have q2 : ¬ 9223372036854775807 < T.size + 1 := by omega
          have q3 : ¬ 9223372036854775807 < T.size + 2 := by omega
          have q4 : ¬ 9223372036854775807 < T.size + 2 + 1 := by omega
          have h2s : (ByteArray.mk #[32, 45]).size = 2 := rfl
          by_cases h0 : t = 0
          · have he : ps = [] := List.eq_nil_of_length_eq_zero (by rw [HM.out, h0])
            have HO2 : Hid ((T ++ ⟨#[32, 45]⟩ ++ ⟨#[10]⟩ : ByteArray).data.toList ++ textF (l.drop (k + 1)) = textF l) := Lib.hid (by
              have e : (T ++ ⟨#[32, 45]⟩ ++ ⟨#[10]⟩ : ByteArray).data.toList = T.data.toList ++ [32, 45, 10] := by simp
              rw [← HOX.out, HLI.out, e, HT3.out, if_pos he, he]; simp [tailsF])
            subst h0
            clear he HT HT3 htm HOX HLI HM
            go_wp2
            go_round
            case rel => exact ⟨k + 1, _, by omega, by go_num, rfl, HO2⟩
            case measure => simp [intOf]; omega
          · have he : ps ≠ [] := fun g => h0 (by rw [← HM.out, g]; rfl)
            have HO2 : Hid ((T ++ ⟨#[10]⟩ : ByteArray).data.toList ++ textF (l.drop (k + 1)) = textF l) := Lib.hid (by
              have e : (T ++ ⟨#[10]⟩ : ByteArray).data.toList = T.data.toList ++ [10] := by simp
              rw [← HOX.out, HLI.out, e, HT3.out, if_neg he]; simp)
            have h0i : ((t : Int) == 0) = false := by rw [beq_eq_false_iff_ne]; omega
            clear he HT HT3 htm HOX HLI HM
            go_wp2
            go_round
            case rel => exact ⟨k + 1, _, by omega, by go_num, rfl, HO2⟩
            case measure => simp [intOf]; omega
    · obtain rfl : k = n := by omega
      have HE : Hid (S.data.toList = textF l) := Lib.hid (by have := HO.out; rw [List.drop_of_length_le (by rw [HLN.out]; omega)] at this; simpa [textF, ended10] using this)
      clear hlt HO
      go_wp2
      go_ret2
      exact HP.out _ _ HE.out HB1.out
end Go.Proofs.YtceohgjfjndcmaaGreatDoor
