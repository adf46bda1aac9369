/-
  internal/strconv.formatBits at the bases 8 and 16 (no appending, no sign): the text is the shortest numeral of at least one digit; the world behind it is the world before, with one new block. Conditions: the two cells of Go's table math/bits.deBruijn64tab that are read hold what the program lays.
-/
import Derived.Test.YtpkdnohaefkfgaaGreatDoorProg
import Derived.Test.YtpkdnohaefkfgaaGreatDoorGParseMath
import Derived.WalkKit
import Derived.WalkSpells
import Derived.WalkLawsBesides
import Derived.Lib.Hide
import Derived.Lib.OwnBridge
import Derived.Lib.ItoaMem
namespace Go.Proofs.YtpkdnohaefkfgaaGreatDoor
open Go.RowKit Go.Sort
set_option maxHeartbeats 400000 in
theorem ispow (b : Nat) (hb : b = 8 ∨ b = 16) (w : World) :
    Calls Tryz.prog 171 #[.int .i64 b] w fun e w' => e = .returned (.bool true) ∧ w = w' := by
  rcases hb with rfl | rfl
  all_goals
    go_enter Tryz.func171, Tryz.ntmps171
    go_wp2
    go_ret
    exact ⟨by kernel_rfl, rfl⟩
/-- What is read of the table of trailing zeros. -/
def TzAt (w : World) : Prop := w.cell? ⟨6, 7, none⟩ = some (.int .u8 3) ∧ w.cell? ⟨6, 15, none⟩ = some (.int .u8 4)
set_option maxHeartbeats 400000 in
theorem tz64 (b sh : Nat) (hb : b = 8 ∧ sh = 3 ∨ b = 16 ∧ sh = 4) (w : World) (h : TzAt w) :
    Calls Tryz.prog 179 #[.int .u64 b] w fun e w' => e = .returned (.int .i64 sh) ∧ w = w' := by
  obtain ⟨h7, h15⟩ := h
  have e : (IntKind.u64.wrap (bits .and .u64 8 (IntKind.u64.wrap (-8)) * 285870213051353865) / 288230376151711744) = 7 := by kernel_rfl
  have e' : (IntKind.u64.wrap (bits .and .u64 16 (IntKind.u64.wrap (-16)) * 285870213051353865) / 288230376151711744) = 15 := by kernel_rfl
  rcases hb with ⟨rfl, rfl⟩ | ⟨rfl, rfl⟩
  all_goals
    go_enter Tryz.func179, Tryz.ntmps179
    go_wp2
    go_ret
    exact ⟨rfl, rfl⟩
set_option maxHeartbeats 400000 in
theorem tz (b sh : Nat) (hb : b = 8 ∧ sh = 3 ∨ b = 16 ∧ sh = 4) (w : World) (h : TzAt w) :
    Calls Tryz.prog 172 #[.int .u64 b] w fun e w' => e = .returned (.int .i64 sh) ∧ w = w' := by
  have H := tz64 b sh hb w h
  rcases hb with ⟨rfl, rfl⟩ | ⟨rfl, rfl⟩
  all_goals
    go_enter Tryz.func172, Tryz.ntmps172
    go_wp2_with (go_at_call 179; refine H.mono ?_; rintro e w' ⟨rfl, rfl⟩)
    go_ret
    exact ⟨rfl, rfl⟩
/-- The library's table of digits. -/
def digTab : ByteArray := ⟨#[48, 49, 50, 51, 52, 53, 54, 55, 56, 57, 97, 98, 99, 100, 101, 102, 103, 104, 105, 106, 107, 108, 109, 110, 111, 112, 113, 114, 115, 116, 117, 118, 119, 120, 121, 122]⟩
theorem digTab_size : digTab.size = 36 := by decide +kernel
theorem digTab_fin : ∀ p : Fin 16, digTab[p.val]! = dgc p.val := by decide +kernel
theorem idx_dig (z : Int) (i : Nat) (hz : z = i) (hi : i < 16) (w : World) :
    (Instr.index 9 (.string digTab) (.int .u64 z)).run Tryz.prog w = .ok (.int .u8 ((dgc i).toNat : Int)) w := by
  subst hz
  rw [run_index_string w 9 digTab .u64 _ Tryz.underlying9, dif_pos ⟨by omega, by rw [digTab_size]; omega⟩]
  have e : ((i : Int)).toNat = i := by omega
  simp only [e]
  have h := digTab_fin ⟨i, hi⟩
  simp only at h
  rw [← h, getElem!_pos digTab i (by rw [digTab_size]; omega)]
theorem and_u64_7 (v : Nat) (hv : v < 18446744073709551616) : bits .and .u64 (v : Int) 7 = (v : Int) % 8 := by
  have h := u64_and_nat v 7 hv (by omega)
  rw [nat_mask3] at h
  rw [show (7 : Int) = ((7 : Nat) : Int) from rfl, h]; omega
theorem and_u64_15 (v : Nat) (hv : v < 18446744073709551616) : bits .and .u64 (v : Int) 15 = (v : Int) % 16 := by
  have h := u64_and_nat v 15 hv (by omega)
  rw [nat_mask4] at h
  rw [show (15 : Int) = ((15 : Nat) : Int) from rfl, h]; omega
abbrev encB : UInt8 → Value := fun b => Value.int .u8 (b.toNat : Int)
theorem zeros_at (i : Nat) (h : i < 65) : Tryz.zeroCells179[i]? = some (.int .u8 0) := by
  have e : Tryz.zeroCells179 = Array.replicate 65 (.int .u8 0) := by kernel_rfl
  rw [e, Array.getElem?_replicate, if_pos h]
theorem holds_zero65 (w : World) : Holds encB (w.alloc (.cells Tryz.zeroCells179 179)) w.heap.size 0 (Array.replicate 65 (0 : UInt8)) := fun j hj => by
  have hj' : j < 65 := by simpa using hj
  refine ⟨?_, World.frozen?_alloc_new _ _ _ _⟩
  rw [World.cell?_alloc_new, Nat.zero_add, zeros_at j hj', getElem!_pos _ j hj]
  simp
theorem below_rowB (w : World) (o : Obj) (d : Array UInt8) : Below w.heap.size w (putRow encB (w.alloc o) w.heap.size 0 d) :=
  Lib.below_putRow (q := 0) ((Below.refl _ _).alloc (Nat.le_refl _) _) (Nat.le_refl _)
theorem store1 (w : World) (blk : Nat) (dk : Array UInt8) (n : Nat) (x : UInt8) (hn : n < dk.size) :
    (putRow encB w blk 0 dk).setCell ⟨blk, n, none⟩ (.int .u8 (x.toNat : Int)) = putRow encB w blk 0 (dk.setIfInBounds n x) := by
  have := putRow_set encB w blk 0 dk n x hn
  rwa [Nat.zero_add] at this
theorem fin_str (b u n v : Nat) (dk : Array UInt8) (W : World) (blk : Nat) (d0 : Array UInt8) (h0 : Holds encB W blk 0 d0) (hs : d0.size = 65) (HI : FInv b u (n + 1) v dk) (hv : v < b) :
    (convert 118 9 (.slice (some ⟨blk, n, none⟩) (65 - n) (65 - n))).run Tryz.prog ((putRow encB W blk 0 dk).setCell ⟨blk, n, none⟩ (.int .u8 ((dgc v).toNat : Int))) = .ok (.string ⟨(digL b u (65 - n)).toArray⟩) ((putRow encB W blk 0 dk).setCell ⟨blk, n, none⟩ (.int .u8 ((dgc v).toNat : Int))) := by
  have hle := HI.le
  have hsz := HI.size
  rw [store1 _ _ _ _ _ (by omega)]
  have hH := holds_putRow encB W blk 0 d0 (dk.setIfInBounds n (dgc v)) h0 (by simp [hsz, hs])
  have h := run_convert_bytes_back (P := Tryz.prog) (putRow encB W blk 0 (dk.setIfInBounds n (dgc v))) 118 9 5 ⟨blk, n, none⟩ (65 - n) (digL b u (65 - n)) Tryz.underlying118 Tryz.underlying5 Tryz.underlying9 (fun j hj => by
    rw [(HI.last hv).1 j hj, Lib.add_plain]
    rw [digL_length] at hj
    have := (hH (n + j) (by simp; omega)).1
    rwa [Nat.zero_add] at this)
  rw [digL_length] at h
  exact h
theorem len_facts {b u n v : Nat} {dk : Array UInt8} (HI : FInv b u (n + 1) v dk) (hb : 8 ≤ b) (hv : v < b) (hn : 44 ≤ n + 1) :
    1 ≤ 65 - n ∧ 65 - n ≤ 22 ∧ u < b ^ (65 - n) ∧ (∀ k, u < b ^ k → 1 ≤ k → 65 - n ≤ k) := by
  have hle := HI.le
  refine ⟨by omega, by omega, (HI.last hv).2, fun k hk hk1 => ?_⟩
  rcases HI.pos with hp | hp
  · omega
  · rcases Nat.lt_or_ge k (65 - n) with hlt | hge
    · exfalso
      have hr := HI.rest
      have h1 : b ^ k ≤ b ^ (65 - (n + 1)) := Nat.pow_le_pow_right (by omega) (by omega)
      rw [Nat.div_eq_of_lt (Nat.lt_of_lt_of_le hk h1)] at hr
      omega
    · exact hge
theorem slice65 (blk n : Nat) (hn : n < 65) (W : World) :
    (Instr.sliceAt 179 (.pointer (some ⟨blk, 0, none⟩)) (some (.int .i64 (n : Int))) none none).run Tryz.prog W = .ok (.slice (some ⟨blk, n, none⟩) (65 - n) (65 - n)) W := by
  have hal : Tryz.prog.arrayLen 179 = 65 := by kernel_rfl
  rw [run_sliceAt_array_l W 179 ⟨blk, 0, none⟩ (by kernel_rfl) .i64 (n : Int) (by omega) (by rw [hal]; omega)]
  go_simp
  omega
set_option maxRecDepth 100000 in
set_option maxHeartbeats 2000000 in
theorem formatBits_any (b sh u : Nat) (hb : b = 8 ∧ sh = 3 ∨ b = 16 ∧ sh = 4) (hu : u < 18446744073709551616) (w : World) (h : ∀ o, TzAt (w.alloc o)) :
    Calls Tryz.prog 156 #[.slice none 0 0, .int .u64 u, .int .i64 b, .bool false, .bool false] w fun e w' => ∃ L, (1 ≤ L ∧ L ≤ 22 ∧ u < b ^ L ∧ (∀ k, u < b ^ k → 1 ≤ k → L ≤ k)) ∧ e = .returned (.tuple #[.slice none 0 0, .string ⟨(digL b u L).toArray⟩]) ∧ Below w.heap.size w w' := by
  have HPOW := fun w => ispow b (by omega) w
  have HTZ := fun o => tz b sh hb (w.alloc o) (h o)
  have HH0 := Lib.hid (holds_zero65 w)
  rcases hb with ⟨rfl, rfl⟩ | ⟨rfl, rfl⟩
  · go_enter Tryz.func156, Tryz.ntmps156
    go_name_bytes PM hPM
    clear hPM
    go_name_bytes SM hSM
    have eSM : SM = digTab := by rw [← hSM]; decide +kernel
    subst eSM
    clear hSM
    go_wp2_with (first | (go_at_call 171; refine (HPOW _).mono ?_; rintro e w' ⟨rfl, rfl⟩) | (go_at_call 172; refine (HTZ _).mono ?_; rintro e w' ⟨rfl, rfl⟩))
    have BL := Lib.hid h
    clear h HPOW HTZ
    go_loopw [1, 13] (fun vu vi wr => ∃ (v i : Nat) (dk : Array UInt8), vu = .int .u64 v ∧ vi = .int .i64 i ∧ wr = putRow encB (w.alloc (.cells Tryz.zeroCells179 179)) w.heap.size 0 dk ∧ v < 18446744073709551616 ∧ 44 ≤ i ∧ i ≤ 65 ∧ Hid (FInv 8 u i v dk)) (fun _ vi _ => (intOf vi).toNat)
    case atStart => exact ⟨u, 65, Array.replicate 65 0, rfl, rfl, (putRow_self _ _ _ _ _ HH0.out).symm, hu, by omega, by omega, Lib.hid (FInv.start 8 u _ (by simp))⟩
    case round =>
      obtain ⟨v, i, dk, rfl, rfl, hw0, hv, hi, hi2, HI⟩ := hrel
      rename World => W0
      have hHr : Holds encB W0 w.heap.size 0 dk := by rw [hw0]; exact holds_putRow _ _ _ _ _ dk HH0.out (by rw [HI.out.size]; simp)
      have hs := HI.out.size
      obtain ⟨n, rfl⟩ : ∃ n, i = n + 1 := ⟨i - 1, by omega⟩
      have hc : W0.cell? ⟨w.heap.size, n, none⟩ = some (.int .u8 (dk[n]!.toNat : Int)) := by have := (hHr n (by omega)).1; rwa [Nat.zero_add] at this
      have hf : W0.frozen? ⟨w.heap.size, n, none⟩ = false := by have := (hHr n (by omega)).2; rwa [Nat.zero_add] at this
      have AW := Lib.hid hw0
      have AS := Lib.hid hs
      clear hw0 hHr hs
      by_cases hlt : v < 8
      · have hX := idx_dig v v rfl (by omega)
        have hsl := slice65 w.heap.size n (by omega)
        have hcv := fin_str 8 u n v dk (w.alloc (.cells Tryz.zeroCells179 179)) w.heap.size _ HH0.out (by simp) HI.out hlt
        rw [← AW.out] at hcv
        go_wp2
        go_ret2
        exact ⟨65 - n, len_facts HI.out (by omega) hlt hi, rfl, by rw [AW.out, store1 _ _ _ _ _ (by have := AS.out; omega)]; exact below_rowB _ _ _⟩
      · have hge : 8 ≤ v := by omega
        clear hlt
        have hand := and_u64_7 v hv
        have hX := idx_dig ((v : Int) % 8) (v % 8) (by omega) (by omega)
        go_wp2
        go_roundw
        case rel =>
          have HI2 := HI.out.step (by omega) hge
          exact ⟨v / 8, n, dk.setIfInBounds n (dgc (v % 8)), by go_num, rfl, by rw [AW.out, store1 _ _ _ _ _ (by have := AS.out; omega)], by omega, HI2.low (by omega) hu, by omega, Lib.hid HI2⟩
        case measure => simp [intOf]
  · go_enter Tryz.func156, Tryz.ntmps156
    go_name_bytes PM hPM
    clear hPM
    go_name_bytes SM hSM
    have eSM : SM = digTab := by rw [← hSM]; decide +kernel
    subst eSM
    clear hSM
    go_wp2_with (first | (go_at_call 171; refine (HPOW _).mono ?_; rintro e w' ⟨rfl, rfl⟩) | (go_at_call 172; refine (HTZ _).mono ?_; rintro e w' ⟨rfl, rfl⟩))
    have BL := Lib.hid h
    clear h HPOW HTZ
    go_loopw [1, 13] (fun vu vi wr => ∃ (v i : Nat) (dk : Array UInt8), vu = .int .u64 v ∧ vi = .int .i64 i ∧ wr = putRow encB (w.alloc (.cells Tryz.zeroCells179 179)) w.heap.size 0 dk ∧ v < 18446744073709551616 ∧ 44 ≤ i ∧ i ≤ 65 ∧ Hid (FInv 16 u i v dk)) (fun _ vi _ => (intOf vi).toNat)
    case atStart => exact ⟨u, 65, Array.replicate 65 0, rfl, rfl, (putRow_self _ _ _ _ _ HH0.out).symm, hu, by omega, by omega, Lib.hid (FInv.start 16 u _ (by simp))⟩
    case round =>
      obtain ⟨v, i, dk, rfl, rfl, hw0, hv, hi, hi2, HI⟩ := hrel
      rename World => W0
      have hHr : Holds encB W0 w.heap.size 0 dk := by rw [hw0]; exact holds_putRow _ _ _ _ _ dk HH0.out (by rw [HI.out.size]; simp)
      have hs := HI.out.size
      obtain ⟨n, rfl⟩ : ∃ n, i = n + 1 := ⟨i - 1, by omega⟩
      have hc : W0.cell? ⟨w.heap.size, n, none⟩ = some (.int .u8 (dk[n]!.toNat : Int)) := by have := (hHr n (by omega)).1; rwa [Nat.zero_add] at this
      have hf : W0.frozen? ⟨w.heap.size, n, none⟩ = false := by have := (hHr n (by omega)).2; rwa [Nat.zero_add] at this
      have AW := Lib.hid hw0
      have AS := Lib.hid hs
      clear hw0 hHr hs
      by_cases hlt : v < 16
      · have hX := idx_dig v v rfl (by omega)
        have hsl := slice65 w.heap.size n (by omega)
        have hcv := fin_str 16 u n v dk (w.alloc (.cells Tryz.zeroCells179 179)) w.heap.size _ HH0.out (by simp) HI.out hlt
        rw [← AW.out] at hcv
        go_wp2
        go_ret2
        exact ⟨65 - n, len_facts HI.out (by omega) hlt hi, rfl, by rw [AW.out, store1 _ _ _ _ _ (by have := AS.out; omega)]; exact below_rowB _ _ _⟩
      · have hge : 16 ≤ v := by omega
        clear hlt
        have hand := and_u64_15 v hv
        have hX := idx_dig ((v : Int) % 16) (v % 16) (by omega) (by omega)
        go_wp2
        go_roundw
        case rel =>
          have HI2 := HI.out.step (by omega) hge
          exact ⟨v / 16, n, dk.setIfInBounds n (dgc (v % 16)), by go_num, rfl, by rw [AW.out, store1 _ _ _ _ _ (by have := AS.out; omega)], by omega, HI2.low (by omega) hu, by omega, Lib.hid HI2⟩
        case measure => simp [intOf]
end Go.Proofs.YtpkdnohaefkfgaaGreatDoor
