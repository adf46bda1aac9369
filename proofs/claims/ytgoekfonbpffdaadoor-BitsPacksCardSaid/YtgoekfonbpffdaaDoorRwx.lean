/-
  bits.Rwx: the nine letters of any mode; of what was there nothing has turned. Conditions: Laid; the mode is an int64.
-/
import Derived.Test.YtgoekfonbpffdaaDoorBase
import Derived.Laws.Rows
namespace Go.Proofs.YtgoekfonbpffdaaDoor
open Go.RowKit Go.Sort
theorem own0 (w : World) : Calls Tryd.prog 46 #[.int .i64 0] w fun e w' => e = .returned (.int .i64 8) ∧ w = w' := by
  go_enter Tryd.func46, Tryd.ntmps46
  go_wp2
  go_ret
  exact ⟨rfl, rfl⟩
theorem own1 (w : World) : Calls Tryd.prog 46 #[.int .i64 1] w fun e w' => e = .returned (.int .i64 7) ∧ w = w' := by
  go_enter Tryd.func46, Tryd.ntmps46
  go_wp2
  go_ret
  exact ⟨rfl, rfl⟩
theorem own2 (w : World) : Calls Tryd.prog 46 #[.int .i64 2] w fun e w' => e = .returned (.int .i64 6) ∧ w = w' := by
  go_enter Tryd.func46, Tryd.ntmps46
  go_wp2
  go_ret
  exact ⟨rfl, rfl⟩
theorem own3 (w : World) : Calls Tryd.prog 46 #[.int .i64 3] w fun e w' => e = .returned (.int .i64 5) ∧ w = w' := by
  go_enter Tryd.func46, Tryd.ntmps46
  go_wp2
  go_ret
  exact ⟨rfl, rfl⟩
theorem own4 (w : World) : Calls Tryd.prog 46 #[.int .i64 4] w fun e w' => e = .returned (.int .i64 4) ∧ w = w' := by
  go_enter Tryd.func46, Tryd.ntmps46
  go_wp2
  go_ret
  exact ⟨rfl, rfl⟩
theorem own5 (w : World) : Calls Tryd.prog 46 #[.int .i64 5] w fun e w' => e = .returned (.int .i64 3) ∧ w = w' := by
  go_enter Tryd.func46, Tryd.ntmps46
  go_wp2
  go_ret
  exact ⟨rfl, rfl⟩
theorem own6 (w : World) : Calls Tryd.prog 46 #[.int .i64 6] w fun e w' => e = .returned (.int .i64 2) ∧ w = w' := by
  go_enter Tryd.func46, Tryd.ntmps46
  go_wp2
  go_ret
  exact ⟨rfl, rfl⟩
theorem own7 (w : World) : Calls Tryd.prog 46 #[.int .i64 7] w fun e w' => e = .returned (.int .i64 1) ∧ w = w' := by
  go_enter Tryd.func46, Tryd.ntmps46
  go_wp2
  go_ret
  exact ⟨rfl, rfl⟩
theorem own8 (w : World) : Calls Tryd.prog 46 #[.int .i64 8] w fun e w' => e = .returned (.int .i64 0) ∧ w = w' := by
  go_enter Tryd.func46, Tryd.ntmps46
  go_wp2
  go_ret
  exact ⟨rfl, rfl⟩
theorem high2 (w : World) : Calls Tryd.prog 47 #[.int .i64 2] w fun e w' => e = .returned (.int .i64 11) ∧ w = w' := by
  go_enter Tryd.func47, Tryd.ntmps47
  go_wp2
  go_ret
  exact ⟨rfl, rfl⟩
theorem high5 (w : World) : Calls Tryd.prog 47 #[.int .i64 5] w fun e w' => e = .returned (.int .i64 10) ∧ w = w' := by
  go_enter Tryd.func47, Tryd.ntmps47
  go_wp2
  go_ret
  exact ⟨rfl, rfl⟩
theorem high8 (w : World) : Calls Tryd.prog 47 #[.int .i64 8] w fun e w' => e = .returned (.int .i64 9) ∧ w = w' := by
  go_enter Tryd.func47, Tryd.ntmps47
  go_wp2
  go_ret
  exact ⟨rfl, rfl⟩
/-- The letter of place i. -/
def letAt (m : Int) (i : Nat) : UInt8 :=
  if i % 3 = 0 then (if bitB m (8 - i) = true then 114 else 45)
  else if i % 3 = 1 then (if bitB m (8 - i) = true then 119 else 45)
  else if bitB m (11 - i / 3) = true then (if bitB m (8 - i) = true then (if i = 8 then 116 else 115) else (if i = 8 then 84 else 83))
  else if bitB m (8 - i) = true then 120 else 45
def rwxL (m : Int) : List UInt8 := (List.range 9).map (letAt m)
theorem and_bit (m N : Int) (s : Nat) (hN : (2 : Int) ^ s = N) (b : Bool) (h : bitB m s = b) : bits .and .i64 (m / N) 1 = if b = true then 1 else 0 := by
  subst hN
  rw [and_1]
  unfold bitB at h
  cases b
  · simp at h ⊢; omega
  · simp at h ⊢; omega
def zeros9 : Array Value := #[.int .u8 0, .int .u8 0, .int .u8 0, .int .u8 0, .int .u8 0, .int .u8 0, .int .u8 0, .int .u8 0, .int .u8 0]
theorem mk9 (w : World) : (Instr.makeSlice 56 (.int .i64 9) (.int .i64 9)).run Tryd.prog w = .ok (.slice (some ⟨w.heap.size, 0, none⟩) 9 9) (w.alloc (.cells zeros9 5)) := by kernel_rfl
theorem holds_zero9 (w : World) (t : TypeId) : Holds encB (w.alloc (.cells zeros9 t)) w.heap.size 0 (Array.replicate 9 (0 : UInt8)) := fun j hj => by
  have hj' : j < 9 := by simpa using hj
  refine ⟨?_, World.frozen?_alloc_new _ _ _ _⟩
  have e : zeros9 = Array.replicate 9 (.int .u8 0) := by kernel_rfl
  rw [World.cell?_alloc_new, Nat.zero_add, e, Array.getElem?_replicate, if_pos hj', getElem!_pos _ j hj]
  simp
/-- What the buffer of nine bytes holds. -/
structure RInv (m : Int) (k : Nat) (dk : Array UInt8) : Prop where
  size : dk.size = 9
  done : ∀ t, t < k → dk[t]! = letAt m t
theorem RInv.step {m : Int} {k : Nat} {dk : Array UInt8} (h : RInv m k dk) (hk : k < 9) (c : UInt8) (hc : letAt m k = c) : RInv m (k + 1) (dk.setIfInBounds k c) where
  size := by simpa using h.size
  done := fun t ht => by
    have hs := h.size
    by_cases e : t = k
    · subst e; rw [getElem!_set_same' _ _ _ (by omega), hc]
    · rw [getElem!_set_other' _ _ _ _ e]; exact h.done t (by omega)
theorem RInv.text {m : Int} {dk : Array UInt8} (h : RInv m 9 dk) : dk.toList = rwxL m := by
  have hs := h.size
  apply List.ext_getElem
  · simp [rwxL, hs]
  · intro j h1 h2
    have hj : j < 9 := by simpa [rwxL] using h2
    have := h.done j hj
    rw [getElem!_pos dk j (by omega)] at this
    simp [rwxL, this]
theorem rwx_str (m : Int) (dk : Array UInt8) (W : World) (blk : Nat) (d0 : Array UInt8) (h0 : Holds encB W blk 0 d0) (hs : d0.size = 9) (HI : RInv m 9 dk) :
    (convert 56 9 (.slice (some ⟨blk, 0, none⟩) 9 9)).run Tryd.prog (putRow encB W blk 0 dk) = .ok (.string ⟨(rwxL m).toArray⟩) (putRow encB W blk 0 dk) := by
  have hsz := HI.size
  have hH := holds_putRow encB W blk 0 d0 dk h0 (by rw [hsz, hs])
  have h := run_convert_bytes_back (P := Tryd.prog) (putRow encB W blk 0 dk) 56 9 5 ⟨blk, 0, none⟩ 9 (rwxL m) Tryd.underlying56 Tryd.underlying5 Tryd.underlying9 (fun j hj => by
    have hj' : j < 9 := by simpa [rwxL] using hj
    have := (hH j (by omega)).1
    rw [Lib.add_plain, this, HI.done j hj']
    simp [rwxL])
  have hl : (rwxL m).length = 9 := by simp [rwxL]
  rw [hl] at h
  exact h
theorem row_sizes : rowR.size = 2 ∧ rowW.size = 2 ∧ rowS.size = 4 ∧ rowT.size = 4 := ⟨rfl, rfl, rfl, rfl⟩
theorem atR0 (w : World) : (Instr.index 9 (.string rowR) (.int .i64 0)).run Tryd.prog w = .ok (.int .u8 ((45 : UInt8).toNat : Int)) w := by kernel_rfl
theorem atR1 (w : World) : (Instr.index 9 (.string rowR) (.int .i64 1)).run Tryd.prog w = .ok (.int .u8 ((114 : UInt8).toNat : Int)) w := by kernel_rfl
theorem atW0 (w : World) : (Instr.index 9 (.string rowW) (.int .i64 0)).run Tryd.prog w = .ok (.int .u8 ((45 : UInt8).toNat : Int)) w := by kernel_rfl
theorem atW1 (w : World) : (Instr.index 9 (.string rowW) (.int .i64 1)).run Tryd.prog w = .ok (.int .u8 ((119 : UInt8).toNat : Int)) w := by kernel_rfl
theorem atS0 (w : World) : (Instr.index 9 (.string rowS) (.int .i64 0)).run Tryd.prog w = .ok (.int .u8 ((45 : UInt8).toNat : Int)) w := by kernel_rfl
theorem atS1 (w : World) : (Instr.index 9 (.string rowS) (.int .i64 1)).run Tryd.prog w = .ok (.int .u8 ((120 : UInt8).toNat : Int)) w := by kernel_rfl
theorem atS2 (w : World) : (Instr.index 9 (.string rowS) (.int .i64 2)).run Tryd.prog w = .ok (.int .u8 ((83 : UInt8).toNat : Int)) w := by kernel_rfl
theorem atS3 (w : World) : (Instr.index 9 (.string rowS) (.int .i64 3)).run Tryd.prog w = .ok (.int .u8 ((115 : UInt8).toNat : Int)) w := by kernel_rfl
theorem atT0 (w : World) : (Instr.index 9 (.string rowT) (.int .i64 0)).run Tryd.prog w = .ok (.int .u8 ((45 : UInt8).toNat : Int)) w := by kernel_rfl
theorem atT1 (w : World) : (Instr.index 9 (.string rowT) (.int .i64 1)).run Tryd.prog w = .ok (.int .u8 ((120 : UInt8).toNat : Int)) w := by kernel_rfl
theorem atT2 (w : World) : (Instr.index 9 (.string rowT) (.int .i64 2)).run Tryd.prog w = .ok (.int .u8 ((84 : UInt8).toNat : Int)) w := by kernel_rfl
theorem atT3 (w : World) : (Instr.index 9 (.string rowT) (.int .i64 3)).run Tryd.prog w = .ok (.int .u8 ((116 : UInt8).toNat : Int)) w := by kernel_rfl
theorem let0 (w : World) : (Instr.index 53 (.agg letArr) (.int .i64 0)).run Tryd.prog w = .ok (.string rowR) w := by kernel_rfl
theorem let1 (w : World) : (Instr.index 53 (.agg letArr) (.int .i64 1)).run Tryd.prog w = .ok (.string rowW) w := by kernel_rfl
theorem let2 (w : World) : (Instr.index 53 (.agg letArr) (.int .i64 2)).run Tryd.prog w = .ok (.string rowS) w := by kernel_rfl
theorem let3 (w : World) : (Instr.index 53 (.agg letArr) (.int .i64 3)).run Tryd.prog w = .ok (.string rowR) w := by kernel_rfl
theorem let4 (w : World) : (Instr.index 53 (.agg letArr) (.int .i64 4)).run Tryd.prog w = .ok (.string rowW) w := by kernel_rfl
theorem let5 (w : World) : (Instr.index 53 (.agg letArr) (.int .i64 5)).run Tryd.prog w = .ok (.string rowS) w := by kernel_rfl
theorem let6 (w : World) : (Instr.index 53 (.agg letArr) (.int .i64 6)).run Tryd.prog w = .ok (.string rowR) w := by kernel_rfl
theorem let7 (w : World) : (Instr.index 53 (.agg letArr) (.int .i64 7)).run Tryd.prog w = .ok (.string rowW) w := by kernel_rfl
theorem let8 (w : World) : (Instr.index 53 (.agg letArr) (.int .i64 8)).run Tryd.prog w = .ok (.string rowT) w := by kernel_rfl
theorem or_01 : bits .or .i64 0 0 = 0 ∧ bits .or .i64 1 0 = 1 ∧ bits .or .i64 0 2 = 2 ∧ bits .or .i64 1 2 = 3 := ⟨by kernel_rfl, by kernel_rfl, by kernel_rfl, by kernel_rfl⟩
set_option maxRecDepth 100000 in
set_option maxHeartbeats 6000000 in
theorem rwx_any (m : Int) (w : World) (h : Laid w) :
    Calls Tryd.prog 25 #[.int .i64 m] w fun e w' => e = .returned (.string ⟨(rwxL m).toArray⟩) ∧ Below w.heap.size w w' := by
  have hmk := mk9
  obtain ⟨t0, fr0, hg⟩ := block_of_var gLetters (h.alloc (.cells zeros9 5)).letters
  have HH0 := Lib.hid (holds_zero9 w 5)
  have BL := Lib.hid h
  clear h
  go_enter Tryd.func25, Tryd.ntmps25
  go_wp2_with (refine wpList_load_row rfl 53 _ rfl 0 rfl t0 letArr fr0 _ hg Tryd.underlying53 rfl (by kernel_rfl) ?_)
  clear hg hmk
  go_loopw [4, 5, 6, 9] (fun _ _ _ vi wr => ∃ (k : Nat) (dk : Array UInt8), vi = .int .i64 k ∧ k ≤ 9 ∧ wr = putRow encB (w.alloc (.cells zeros9 5)) w.heap.size 0 dk ∧ Hid (RInv m k dk)) (fun _ _ _ vi _ => 9 - (intOf vi).toNat)
  case atStart => exact ⟨0, Array.replicate 9 0, rfl, by omega, (putRow_self _ _ _ _ _ HH0.out).symm, Lib.hid ⟨by simp, fun t ht => by omega⟩⟩
  case round =>
    obtain ⟨k, dk, rfl, hk, hw0, HI⟩ := hrel
    rename World => W0
    have hs := HI.out.size
    by_cases hlt : k < 9
    · have hHr : Holds encB W0 w.heap.size 0 dk := by rw [hw0]; exact holds_putRow _ _ _ _ _ dk HH0.out (by rw [hs]; simp)
      have hc : W0.cell? ⟨w.heap.size, k, none⟩ = some (.int .u8 (dk[k]!.toNat : Int)) := by have := (hHr k (by omega)).1; rwa [Nat.zero_add] at this
      have hf : W0.frozen? ⟨w.heap.size, k, none⟩ = false := by have := (hHr k (by omega)).2; rwa [Nat.zero_add] at this
      have AW := Lib.hid hw0
      have AS := Lib.hid hs
      clear hw0 hHr hs hk
      have hk9 : k = 0 ∨ k = 1 ∨ k = 2 ∨ k = 3 ∨ k = 4 ∨ k = 5 ∨ k = 6 ∨ k = 7 ∨ k = 8 := by omega
      clear hlt
      obtain ⟨szR, szW, szS, szT⟩ := row_sizes
      obtain ⟨o00, o10, o02, o12⟩ := or_01
      rcases hk9 with rfl | rfl | rfl | rfl | rfl | rfl | rfl | rfl | rfl
      · -- place 0
        have hl := let0
        cases hb : bitB m 8
        · have e1 : bits .and .i64 (m / 256) 1 = 0 := by have := and_bit m 256 8 rfl false hb; simpa using this
          have hx := atR0
          have HB := Lib.hid hb
          clear hb
          go_wp2_with (go_at_call 46; refine (own0 _).mono ?_; rintro e w' ⟨rfl, rfl⟩)
          go_roundw
          case rel => exact ⟨1, dk.setIfInBounds 0 45, rfl, by omega, by rw [AW.out]; exact store1 _ _ dk 0 45 (by have := AS.out; omega), Lib.hid (HI.out.step (by omega) _ (by simp [letAt, HB.out]))⟩
          case measure => simp [intOf]
        · have e1 : bits .and .i64 (m / 256) 1 = 1 := by have := and_bit m 256 8 rfl true hb; simpa using this
          have hx := atR1
          have HB := Lib.hid hb
          clear hb
          go_wp2_with (go_at_call 46; refine (own0 _).mono ?_; rintro e w' ⟨rfl, rfl⟩)
          go_roundw
          case rel => exact ⟨1, dk.setIfInBounds 0 114, rfl, by omega, by rw [AW.out]; exact store1 _ _ dk 0 114 (by have := AS.out; omega), Lib.hid (HI.out.step (by omega) _ (by simp [letAt, HB.out]))⟩
          case measure => simp [intOf]
      · -- place 1
        have hl := let1
        cases hb : bitB m 7
        · have e1 : bits .and .i64 (m / 128) 1 = 0 := by have := and_bit m 128 7 rfl false hb; simpa using this
          have hx := atW0
          have HB := Lib.hid hb
          clear hb
          go_wp2_with (go_at_call 46; refine (own1 _).mono ?_; rintro e w' ⟨rfl, rfl⟩)
          go_roundw
          case rel => exact ⟨2, dk.setIfInBounds 1 45, rfl, by omega, by rw [AW.out]; exact store1 _ _ dk 1 45 (by have := AS.out; omega), Lib.hid (HI.out.step (by omega) _ (by simp [letAt, HB.out]))⟩
          case measure => simp [intOf]
        · have e1 : bits .and .i64 (m / 128) 1 = 1 := by have := and_bit m 128 7 rfl true hb; simpa using this
          have hx := atW1
          have HB := Lib.hid hb
          clear hb
          go_wp2_with (go_at_call 46; refine (own1 _).mono ?_; rintro e w' ⟨rfl, rfl⟩)
          go_roundw
          case rel => exact ⟨2, dk.setIfInBounds 1 119, rfl, by omega, by rw [AW.out]; exact store1 _ _ dk 1 119 (by have := AS.out; omega), Lib.hid (HI.out.step (by omega) _ (by simp [letAt, HB.out]))⟩
          case measure => simp [intOf]
      · -- place 2
        have hl := let2
        cases hb : bitB m 6 <;> cases hd : bitB m 11
        · have e1 : bits .and .i64 (m / 64) 1 = 0 := by have := and_bit m 64 6 rfl false hb; simpa using this
          have e2 : bits .and .i64 (m / 2048) 1 = 0 := by have := and_bit m 2048 11 rfl false hd; simpa using this
          have hx := atS0
          have HB := Lib.hid hb
          have HD := Lib.hid hd
          clear hb hd
          go_wp2_with (first | (go_at_call 46; refine (own2 _).mono ?_; rintro e w' ⟨rfl, rfl⟩) | (go_at_call 47; refine (high2 _).mono ?_; rintro e w' ⟨rfl, rfl⟩))
          go_roundw
          case rel => exact ⟨3, dk.setIfInBounds 2 45, rfl, by omega, by rw [AW.out]; exact store1 _ _ dk 2 45 (by have := AS.out; omega), Lib.hid (HI.out.step (by omega) _ (by simp [letAt, HB.out, HD.out]))⟩
          case measure => simp [intOf]
        · have e1 : bits .and .i64 (m / 64) 1 = 0 := by have := and_bit m 64 6 rfl false hb; simpa using this
          have e2 : bits .and .i64 (m / 2048) 1 = 1 := by have := and_bit m 2048 11 rfl true hd; simpa using this
          have hx := atS2
          have HB := Lib.hid hb
          have HD := Lib.hid hd
          clear hb hd
          go_wp2_with (first | (go_at_call 46; refine (own2 _).mono ?_; rintro e w' ⟨rfl, rfl⟩) | (go_at_call 47; refine (high2 _).mono ?_; rintro e w' ⟨rfl, rfl⟩))
          go_roundw
          case rel => exact ⟨3, dk.setIfInBounds 2 83, rfl, by omega, by rw [AW.out]; exact store1 _ _ dk 2 83 (by have := AS.out; omega), Lib.hid (HI.out.step (by omega) _ (by simp [letAt, HB.out, HD.out]))⟩
          case measure => simp [intOf]
        · have e1 : bits .and .i64 (m / 64) 1 = 1 := by have := and_bit m 64 6 rfl true hb; simpa using this
          have e2 : bits .and .i64 (m / 2048) 1 = 0 := by have := and_bit m 2048 11 rfl false hd; simpa using this
          have hx := atS1
          have HB := Lib.hid hb
          have HD := Lib.hid hd
          clear hb hd
          go_wp2_with (first | (go_at_call 46; refine (own2 _).mono ?_; rintro e w' ⟨rfl, rfl⟩) | (go_at_call 47; refine (high2 _).mono ?_; rintro e w' ⟨rfl, rfl⟩))
          go_roundw
          case rel => exact ⟨3, dk.setIfInBounds 2 120, rfl, by omega, by rw [AW.out]; exact store1 _ _ dk 2 120 (by have := AS.out; omega), Lib.hid (HI.out.step (by omega) _ (by simp [letAt, HB.out, HD.out]))⟩
          case measure => simp [intOf]
        · have e1 : bits .and .i64 (m / 64) 1 = 1 := by have := and_bit m 64 6 rfl true hb; simpa using this
          have e2 : bits .and .i64 (m / 2048) 1 = 1 := by have := and_bit m 2048 11 rfl true hd; simpa using this
          have hx := atS3
          have HB := Lib.hid hb
          have HD := Lib.hid hd
          clear hb hd
          go_wp2_with (first | (go_at_call 46; refine (own2 _).mono ?_; rintro e w' ⟨rfl, rfl⟩) | (go_at_call 47; refine (high2 _).mono ?_; rintro e w' ⟨rfl, rfl⟩))
          go_roundw
          case rel => exact ⟨3, dk.setIfInBounds 2 115, rfl, by omega, by rw [AW.out]; exact store1 _ _ dk 2 115 (by have := AS.out; omega), Lib.hid (HI.out.step (by omega) _ (by simp [letAt, HB.out, HD.out]))⟩
          case measure => simp [intOf]
      · -- place 3
        have hl := let3
        cases hb : bitB m 5
        · have e1 : bits .and .i64 (m / 32) 1 = 0 := by have := and_bit m 32 5 rfl false hb; simpa using this
          have hx := atR0
          have HB := Lib.hid hb
          clear hb
          go_wp2_with (go_at_call 46; refine (own3 _).mono ?_; rintro e w' ⟨rfl, rfl⟩)
          go_roundw
          case rel => exact ⟨4, dk.setIfInBounds 3 45, rfl, by omega, by rw [AW.out]; exact store1 _ _ dk 3 45 (by have := AS.out; omega), Lib.hid (HI.out.step (by omega) _ (by simp [letAt, HB.out]))⟩
          case measure => simp [intOf]
        · have e1 : bits .and .i64 (m / 32) 1 = 1 := by have := and_bit m 32 5 rfl true hb; simpa using this
          have hx := atR1
          have HB := Lib.hid hb
          clear hb
          go_wp2_with (go_at_call 46; refine (own3 _).mono ?_; rintro e w' ⟨rfl, rfl⟩)
          go_roundw
          case rel => exact ⟨4, dk.setIfInBounds 3 114, rfl, by omega, by rw [AW.out]; exact store1 _ _ dk 3 114 (by have := AS.out; omega), Lib.hid (HI.out.step (by omega) _ (by simp [letAt, HB.out]))⟩
          case measure => simp [intOf]
      · -- place 4
        have hl := let4
        cases hb : bitB m 4
        · have e1 : bits .and .i64 (m / 16) 1 = 0 := by have := and_bit m 16 4 rfl false hb; simpa using this
          have hx := atW0
          have HB := Lib.hid hb
          clear hb
          go_wp2_with (go_at_call 46; refine (own4 _).mono ?_; rintro e w' ⟨rfl, rfl⟩)
          go_roundw
          case rel => exact ⟨5, dk.setIfInBounds 4 45, rfl, by omega, by rw [AW.out]; exact store1 _ _ dk 4 45 (by have := AS.out; omega), Lib.hid (HI.out.step (by omega) _ (by simp [letAt, HB.out]))⟩
          case measure => simp [intOf]
        · have e1 : bits .and .i64 (m / 16) 1 = 1 := by have := and_bit m 16 4 rfl true hb; simpa using this
          have hx := atW1
          have HB := Lib.hid hb
          clear hb
          go_wp2_with (go_at_call 46; refine (own4 _).mono ?_; rintro e w' ⟨rfl, rfl⟩)
          go_roundw
          case rel => exact ⟨5, dk.setIfInBounds 4 119, rfl, by omega, by rw [AW.out]; exact store1 _ _ dk 4 119 (by have := AS.out; omega), Lib.hid (HI.out.step (by omega) _ (by simp [letAt, HB.out]))⟩
          case measure => simp [intOf]
      · -- place 5
        have hl := let5
        cases hb : bitB m 3 <;> cases hd : bitB m 10
        · have e1 : bits .and .i64 (m / 8) 1 = 0 := by have := and_bit m 8 3 rfl false hb; simpa using this
          have e2 : bits .and .i64 (m / 1024) 1 = 0 := by have := and_bit m 1024 10 rfl false hd; simpa using this
          have hx := atS0
          have HB := Lib.hid hb
          have HD := Lib.hid hd
          clear hb hd
          go_wp2_with (first | (go_at_call 46; refine (own5 _).mono ?_; rintro e w' ⟨rfl, rfl⟩) | (go_at_call 47; refine (high5 _).mono ?_; rintro e w' ⟨rfl, rfl⟩))
          go_roundw
          case rel => exact ⟨6, dk.setIfInBounds 5 45, rfl, by omega, by rw [AW.out]; exact store1 _ _ dk 5 45 (by have := AS.out; omega), Lib.hid (HI.out.step (by omega) _ (by simp [letAt, HB.out, HD.out]))⟩
          case measure => simp [intOf]
        · have e1 : bits .and .i64 (m / 8) 1 = 0 := by have := and_bit m 8 3 rfl false hb; simpa using this
          have e2 : bits .and .i64 (m / 1024) 1 = 1 := by have := and_bit m 1024 10 rfl true hd; simpa using this
          have hx := atS2
          have HB := Lib.hid hb
          have HD := Lib.hid hd
          clear hb hd
          go_wp2_with (first | (go_at_call 46; refine (own5 _).mono ?_; rintro e w' ⟨rfl, rfl⟩) | (go_at_call 47; refine (high5 _).mono ?_; rintro e w' ⟨rfl, rfl⟩))
          go_roundw
          case rel => exact ⟨6, dk.setIfInBounds 5 83, rfl, by omega, by rw [AW.out]; exact store1 _ _ dk 5 83 (by have := AS.out; omega), Lib.hid (HI.out.step (by omega) _ (by simp [letAt, HB.out, HD.out]))⟩
          case measure => simp [intOf]
        · have e1 : bits .and .i64 (m / 8) 1 = 1 := by have := and_bit m 8 3 rfl true hb; simpa using this
          have e2 : bits .and .i64 (m / 1024) 1 = 0 := by have := and_bit m 1024 10 rfl false hd; simpa using this
          have hx := atS1
          have HB := Lib.hid hb
          have HD := Lib.hid hd
          clear hb hd
          go_wp2_with (first | (go_at_call 46; refine (own5 _).mono ?_; rintro e w' ⟨rfl, rfl⟩) | (go_at_call 47; refine (high5 _).mono ?_; rintro e w' ⟨rfl, rfl⟩))
          go_roundw
          case rel => exact ⟨6, dk.setIfInBounds 5 120, rfl, by omega, by rw [AW.out]; exact store1 _ _ dk 5 120 (by have := AS.out; omega), Lib.hid (HI.out.step (by omega) _ (by simp [letAt, HB.out, HD.out]))⟩
          case measure => simp [intOf]
        · have e1 : bits .and .i64 (m / 8) 1 = 1 := by have := and_bit m 8 3 rfl true hb; simpa using this
          have e2 : bits .and .i64 (m / 1024) 1 = 1 := by have := and_bit m 1024 10 rfl true hd; simpa using this
          have hx := atS3
          have HB := Lib.hid hb
          have HD := Lib.hid hd
          clear hb hd
          go_wp2_with (first | (go_at_call 46; refine (own5 _).mono ?_; rintro e w' ⟨rfl, rfl⟩) | (go_at_call 47; refine (high5 _).mono ?_; rintro e w' ⟨rfl, rfl⟩))
          go_roundw
          case rel => exact ⟨6, dk.setIfInBounds 5 115, rfl, by omega, by rw [AW.out]; exact store1 _ _ dk 5 115 (by have := AS.out; omega), Lib.hid (HI.out.step (by omega) _ (by simp [letAt, HB.out, HD.out]))⟩
          case measure => simp [intOf]
      · -- place 6
        have hl := let6
        cases hb : bitB m 2
        · have e1 : bits .and .i64 (m / 4) 1 = 0 := by have := and_bit m 4 2 rfl false hb; simpa using this
          have hx := atR0
          have HB := Lib.hid hb
          clear hb
          go_wp2_with (go_at_call 46; refine (own6 _).mono ?_; rintro e w' ⟨rfl, rfl⟩)
          go_roundw
          case rel => exact ⟨7, dk.setIfInBounds 6 45, rfl, by omega, by rw [AW.out]; exact store1 _ _ dk 6 45 (by have := AS.out; omega), Lib.hid (HI.out.step (by omega) _ (by simp [letAt, HB.out]))⟩
          case measure => simp [intOf]
        · have e1 : bits .and .i64 (m / 4) 1 = 1 := by have := and_bit m 4 2 rfl true hb; simpa using this
          have hx := atR1
          have HB := Lib.hid hb
          clear hb
          go_wp2_with (go_at_call 46; refine (own6 _).mono ?_; rintro e w' ⟨rfl, rfl⟩)
          go_roundw
          case rel => exact ⟨7, dk.setIfInBounds 6 114, rfl, by omega, by rw [AW.out]; exact store1 _ _ dk 6 114 (by have := AS.out; omega), Lib.hid (HI.out.step (by omega) _ (by simp [letAt, HB.out]))⟩
          case measure => simp [intOf]
      · -- place 7
        have hl := let7
        cases hb : bitB m 1
        · have e1 : bits .and .i64 (m / 2) 1 = 0 := by have := and_bit m 2 1 rfl false hb; simpa using this
          have hx := atW0
          have HB := Lib.hid hb
          clear hb
          go_wp2_with (go_at_call 46; refine (own7 _).mono ?_; rintro e w' ⟨rfl, rfl⟩)
          go_roundw
          case rel => exact ⟨8, dk.setIfInBounds 7 45, rfl, by omega, by rw [AW.out]; exact store1 _ _ dk 7 45 (by have := AS.out; omega), Lib.hid (HI.out.step (by omega) _ (by simp [letAt, HB.out]))⟩
          case measure => simp [intOf]
        · have e1 : bits .and .i64 (m / 2) 1 = 1 := by have := and_bit m 2 1 rfl true hb; simpa using this
          have hx := atW1
          have HB := Lib.hid hb
          clear hb
          go_wp2_with (go_at_call 46; refine (own7 _).mono ?_; rintro e w' ⟨rfl, rfl⟩)
          go_roundw
          case rel => exact ⟨8, dk.setIfInBounds 7 119, rfl, by omega, by rw [AW.out]; exact store1 _ _ dk 7 119 (by have := AS.out; omega), Lib.hid (HI.out.step (by omega) _ (by simp [letAt, HB.out]))⟩
          case measure => simp [intOf]
      · -- place 8
        have hl := let8
        cases hb : bitB m 0 <;> cases hd : bitB m 9
        · have e1 : bits .and .i64 m 1 = 0 := by have := and_bit m 1 0 rfl false hb; simpa using this
          have e2 : bits .and .i64 (m / 512) 1 = 0 := by have := and_bit m 512 9 rfl false hd; simpa using this
          have hx := atT0
          have HB := Lib.hid hb
          have HD := Lib.hid hd
          clear hb hd
          go_wp2_with (first | (go_at_call 46; refine (own8 _).mono ?_; rintro e w' ⟨rfl, rfl⟩) | (go_at_call 47; refine (high8 _).mono ?_; rintro e w' ⟨rfl, rfl⟩))
          go_roundw
          case rel => exact ⟨9, dk.setIfInBounds 8 45, rfl, by omega, by rw [AW.out]; exact store1 _ _ dk 8 45 (by have := AS.out; omega), Lib.hid (HI.out.step (by omega) _ (by simp [letAt, HB.out, HD.out]))⟩
          case measure => simp [intOf]
        · have e1 : bits .and .i64 m 1 = 0 := by have := and_bit m 1 0 rfl false hb; simpa using this
          have e2 : bits .and .i64 (m / 512) 1 = 1 := by have := and_bit m 512 9 rfl true hd; simpa using this
          have hx := atT2
          have HB := Lib.hid hb
          have HD := Lib.hid hd
          clear hb hd
          go_wp2_with (first | (go_at_call 46; refine (own8 _).mono ?_; rintro e w' ⟨rfl, rfl⟩) | (go_at_call 47; refine (high8 _).mono ?_; rintro e w' ⟨rfl, rfl⟩))
          go_roundw
          case rel => exact ⟨9, dk.setIfInBounds 8 84, rfl, by omega, by rw [AW.out]; exact store1 _ _ dk 8 84 (by have := AS.out; omega), Lib.hid (HI.out.step (by omega) _ (by simp [letAt, HB.out, HD.out]))⟩
          case measure => simp [intOf]
        · have e1 : bits .and .i64 m 1 = 1 := by have := and_bit m 1 0 rfl true hb; simpa using this
          have e2 : bits .and .i64 (m / 512) 1 = 0 := by have := and_bit m 512 9 rfl false hd; simpa using this
          have hx := atT1
          have HB := Lib.hid hb
          have HD := Lib.hid hd
          clear hb hd
          go_wp2_with (first | (go_at_call 46; refine (own8 _).mono ?_; rintro e w' ⟨rfl, rfl⟩) | (go_at_call 47; refine (high8 _).mono ?_; rintro e w' ⟨rfl, rfl⟩))
          go_roundw
          case rel => exact ⟨9, dk.setIfInBounds 8 120, rfl, by omega, by rw [AW.out]; exact store1 _ _ dk 8 120 (by have := AS.out; omega), Lib.hid (HI.out.step (by omega) _ (by simp [letAt, HB.out, HD.out]))⟩
          case measure => simp [intOf]
        · have e1 : bits .and .i64 m 1 = 1 := by have := and_bit m 1 0 rfl true hb; simpa using this
          have e2 : bits .and .i64 (m / 512) 1 = 1 := by have := and_bit m 512 9 rfl true hd; simpa using this
          have hx := atT3
          have HB := Lib.hid hb
          have HD := Lib.hid hd
          clear hb hd
          go_wp2_with (first | (go_at_call 46; refine (own8 _).mono ?_; rintro e w' ⟨rfl, rfl⟩) | (go_at_call 47; refine (high8 _).mono ?_; rintro e w' ⟨rfl, rfl⟩))
          go_roundw
          case rel => exact ⟨9, dk.setIfInBounds 8 116, rfl, by omega, by rw [AW.out]; exact store1 _ _ dk 8 116 (by have := AS.out; omega), Lib.hid (HI.out.step (by omega) _ (by simp [letAt, HB.out, HD.out]))⟩
          case measure => simp [intOf]
    · obtain rfl : k = 9 := by omega
      have hcv := rwx_str m dk (w.alloc (.cells zeros9 5)) w.heap.size _ HH0.out (by simp) HI.out
      rw [← hw0] at hcv
      have AW := Lib.hid hw0
      clear hw0
      go_wp2
      go_ret
      exact ⟨rfl, by rw [AW.out]; exact below_row _ _ _⟩
end Go.Proofs.YtgoekfonbpffdaaDoor
