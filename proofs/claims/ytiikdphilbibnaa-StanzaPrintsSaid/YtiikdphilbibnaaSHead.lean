/-
  The reference's head of a field's line: what it returns; nothing old turns.
-/
import Derived.Test.YtiikdphilbibnaaSPrint
namespace Go.Proofs.Ytiikdphilbibnaa
open Go.RowKit
def fldV (f : Fld) : Value := .agg #[.string ⟨f.1.toArray⟩, .string ⟨f.2.toArray⟩]
def headV : Option Fld → Value
  | some f => .tuple #[fldV f, .bool true]
  | none => .tuple #[fldV ([], []), .bool false]
theorem headF_no {s : ByteArray} (h : ∀ (j : Nat) (hj : j < s.size), ¬ s[j] = 58) : headF s.data.toList = none := by
  have h58 : (58 : UInt8) ∉ s.data.toList := fun hm => by
    obtain ⟨j, hj, e⟩ := List.mem_iff_getElem.1 hm
    exact h j (by rw [sizeOf]; exact hj) e
  unfold headF
  rw [colonAt_no _ h58, if_neg (by omega)]
theorem headF_at {s : ByteArray} {k : Nat} (hk : k < s.size) (h : ∀ (j : Nat) (hj : j < s.size), j < k → ¬ s[j] = 58) (e : s[k] = 58) : headF s.data.toList = some (s.data.toList.take k, if (s.data.toList.drop (k + 1)).head? = some 32 then (s.data.toList.drop (k + 1)).tail else s.data.toList.drop (k + 1)) := by
  have h58 : (58 : UInt8) ∉ s.data.toList.take k := fun hm => by
    obtain ⟨j, hj, e⟩ := List.mem_iff_getElem.1 hm
    rw [List.length_take] at hj
    have hs := sizeOf s
    rw [List.getElem_take] at e
    exact h j (by omega) (by omega) e
  have hd : s.data.toList = s.data.toList.take k ++ 58 :: s.data.toList.drop (k + 1) := by
    have h1 := dropC s k hk
    rw [e] at h1
    rw [← h1, List.take_append_drop]
  have hl : (s.data.toList.take k).length = k := by rw [List.length_take]; have := sizeOf s; omega
  have hc : colonAt s.data.toList = k := by
    have h1 := colonAt_at _ (s.data.toList.drop (k + 1)) h58
    rw [← hd, hl] at h1
    exact h1
  unfold headF
  rw [hc, if_pos (by rw [← sizeOf]; exact hk)]
theorem ext_end (s : ByteArray) (k : Nat) : (s.extract k s.size).data.toList = s.data.toList.drop k := by
  rw [extL, List.take_of_length_le (by rw [List.length_drop, ← sizeOf]; omega)]
def HeadPost (s : Bs) (w : World) (e : Ending) (w' : World) : Prop := e = .returned (headV (headF s)) ∧ Below w.heap.size w w'
set_option maxRecDepth 100000 in
set_option maxHeartbeats 8000000 in
theorem head_ref (s : ByteArray) (hs : s.size ≤ 100000) (w : World) : Calls Try.prog 29 #[.string s] w (HeadPost s.data.toList w) := by
  have HN : Hid ((∀ (j : Nat) (hj : j < s.size), ¬ s[j] = 58) → ∀ e w', e = .returned (.tuple #[.agg #[.string ⟨#[]⟩, .string ⟨#[]⟩], .bool false]) → Below w.heap.size w w' → HeadPost s.data.toList w e w') := Lib.hid (fun g e w' h1 h2 => ⟨by rw [headF_no g]; exact h1, h2⟩)
  have HA : Hid (∀ (k : Nat) (hk : k < s.size), (∀ (j : Nat) (hj : j < s.size), j < k → ¬ s[j] = 58) → s[k] = 58 → ∀ (x y : ByteArray), x.data.toList = s.data.toList.take k → y.data.toList = (if (s.data.toList.drop (k + 1)).head? = some 32 then (s.data.toList.drop (k + 1)).tail else s.data.toList.drop (k + 1)) → ∀ e w', e = .returned (.tuple #[.agg #[.string x, .string y], .bool true]) → Below w.heap.size w w' → HeadPost s.data.toList w e w') := Lib.hid (fun k hk g g2 x y hx hy e w' h1 h2 => ⟨by rw [headF_at hk g g2, ← hx, ← hy]; exact h1, h2⟩)
  go_enter Try.func29, Try.ntmps29
  go_wp2
  go_loop [4] (fun i => ∃ k : Nat, k ≤ s.size ∧ i = .int .i64 k ∧ Hid (∀ (j : Nat) (hj : j < s.size), j < k → ¬ s[j] = 58)) (fun i => s.size - (intOf i).toNat)
  case atStart => exact ⟨0, by omega, rfl, Lib.hid (fun j hj g => by omega)⟩
  case round =>
    obtain ⟨k, hk, rfl, H⟩ := hrel
    by_cases hlt : k < s.size
    · have hx := s[k].toNat_lt
      by_cases he : s[k] = 58
      · have h1 : ((s[k].toNat : Int) == 58) = true := by rw [he]; rfl
        have G := Lib.hid (HA.out k hlt H.out he (s.extract 0 k) )
        have hxk : (s.extract 0 k).data.toList = s.data.toList.take k := by rw [extL]; simp
        obtain ⟨T, hT⟩ : ∃ T : ByteArray, s.extract (k + 1) s.size = T := ⟨_, rfl⟩
        have hTl : T.data.toList = s.data.toList.drop (k + 1) := by rw [← hT, ext_end]
        have hTs : T.size ≤ 100000 := by rw [← hT, ByteArray.size_extract]; omega
        clear HA HN H he
        by_cases h0 : 0 < T.size
        · have hd0 := dropC T 0 h0
          rw [List.drop_zero, hTl] at hd0
          have hy := T[0].toNat_lt
          by_cases h32 : T[0] = 32
          · have h2 : ((T[0].toNat : Int) == 32) = true := by rw [h32]; rfl
            have GG : Hid (∀ e w', e = .returned (.tuple #[.agg #[.string (s.extract 0 k), .string (T.extract 1 T.size)], .bool true]) → Below w.heap.size w w' → HeadPost s.data.toList w e w') := Lib.hid (G.out _ hxk (by
              rw [hd0, h32, List.head?_cons, if_pos rfl, ext_end, hTl, hd0]; rfl))
            clear G hxk hTl hd0 h32
            go_wp2
            exact bodyPost_ret (v := .tuple #[.agg #[.string (s.extract 0 k), .string (T.extract 1 T.size)], .bool true]) (by simp [results, Try.results29, go_sem]) rfl (GG.out _ _ rfl ((Below.refl _ _).alloc (Nat.le_refl _) _))
          · have h2 : ((T[0].toNat : Int) == 32) = false := by
              rw [beq_eq_false_iff_ne]; intro g; exact h32 (UInt8.toNat_inj.1 (by show T[0].toNat = 32; omega))
            have GG : Hid (∀ e w', e = .returned (.tuple #[.agg #[.string (s.extract 0 k), .string T], .bool true]) → Below w.heap.size w w' → HeadPost s.data.toList w e w') := Lib.hid (G.out _ hxk (by
              rw [hTl, hd0, List.head?_cons, if_neg (by simpa using h32)]))
            clear G hxk hTl hd0 h32
            go_wp2
            exact bodyPost_ret (v := .tuple #[.agg #[.string (s.extract 0 k), .string T], .bool true]) (by simp [results, Try.results29, go_sem]) rfl (GG.out _ _ rfl ((Below.refl _ _).alloc (Nat.le_refl _) _))
        · have hT0 : T.data.toList = [] := List.eq_nil_of_length_eq_zero (by rw [← sizeOf]; omega)
          have GG : Hid (∀ e w', e = .returned (.tuple #[.agg #[.string (s.extract 0 k), .string T], .bool true]) → Below w.heap.size w w' → HeadPost s.data.toList w e w') := Lib.hid (G.out _ hxk (by
            rw [← hTl, hT0, List.head?_nil, if_neg (by simp)]))
          clear G hxk hTl hT0
          go_wp2
          exact bodyPost_ret (v := .tuple #[.agg #[.string (s.extract 0 k), .string T], .bool true]) (by simp [results, Try.results29, go_sem]) rfl (GG.out _ _ rfl ((Below.refl _ _).alloc (Nat.le_refl _) _))
      · have h1 : ((s[k].toNat : Int) == 58) = false := by
          rw [beq_eq_false_iff_ne]; intro g; exact he (UInt8.toNat_inj.1 (by show s[k].toNat = 58; omega))
        have HK : Hid (∀ (j : Nat) (hj : j < s.size), j < k + 1 → ¬ s[j] = 58) := Lib.hid (fun j hj g => by
          by_cases e : j = k
          · subst e; exact he
          · exact H.out j hj (by omega))
        clear he H HA HN
        go_wp2
        go_round
        case rel => exact ⟨k + 1, by omega, by go_num, HK⟩
        case measure => simp [intOf]; omega
    · obtain rfl : k = s.size := by omega
      have GG := Lib.hid (HN.out (fun j hj => H.out j hj hj))
      clear hlt HA HN H
      go_wp2
      exact bodyPost_ret (v := .tuple #[.agg #[.string ⟨#[]⟩, .string ⟨#[]⟩], .bool false]) (by simp [results, Try.results29, go_sem]) rfl (GG.out _ _ rfl ((Below.refl _ _).alloc (Nat.le_refl _) _))
end Go.Proofs.Ytiikdphilbibnaa
