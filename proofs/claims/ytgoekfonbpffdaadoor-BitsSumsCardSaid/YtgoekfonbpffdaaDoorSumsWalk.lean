/-
  The reference's Sum and ParseHex, and the walk of BitsSums: for every two texts and every uint64 it returns true; of what was there nothing has turned. Condition: LaidE.
-/
import Derived.Test.YtgoekfonbpffdaaDoorOctalWalk
namespace Go.Proofs.YtgoekfonbpffdaaDoor.bitsSumsw
open Go.RowKit Go.Sort
theorem sumr_step (s : ByteArray) (k q : Nat) (h : k < s.size) (hq : q = sumN (s.data.toList.take k)) :
    IntKind.u64.wrap (bits .xor .u64 (q : Int) (IntKind.u64.wrap (s[k].toNat : Int)) * 1099511628211) = ((sumN (s.data.toList.take (k + 1)) : Nat) : Int) := sum_step s k q h hq
set_option maxHeartbeats 1000000 in
theorem sum_ref (s : ByteArray) (hs : s.size ≤ 4000) (w : World) :
    Calls Tryd.prog 35 #[.string s] w fun e w' => e = .returned (.string ⟨(digL 16 (sumN s.data.toList) 16).toArray⟩) ∧ w = w' := by
  go_enter Tryd.func35, Tryd.ntmps35
  go_wp2
  go_loop [3, 4] (fun x i => ∃ (k q : Nat), k ≤ s.size ∧ i = .int .i64 k ∧ x = .int .u64 q ∧ q < 18446744073709551616 ∧ Hid (q = sumN (s.data.toList.take k))) (fun _ i => s.size - (intOf i).toNat)
  case atStart => exact ⟨0, 14695981039346656037, Nat.zero_le _, rfl, rfl, by omega, Lib.hid rfl⟩
  case round =>
    obtain ⟨k, q, hk, rfl, rfl, hq, HQ⟩ := hrel
    by_cases hlt : k < s.size
    · have HX := Lib.hid (sum_step s k q hlt HQ.out)
      go_wp2
      go_round
      case rel => exact ⟨k + 1, sumN (s.data.toList.take (k + 1)), by omega, by go_num, by rw [HX.out], sumN_lt _, Lib.hid rfl⟩
      case measure => simp [intOf]; omega
    · obtain rfl : k = s.size := by omega
      have HF := fun w => hex_ref q hq w
      go_wp2_with (go_at_call 36; refine (HF _).mono ?_; rintro e w1 ⟨rfl, rfl⟩)
      go_ret
      refine ⟨?_, rfl⟩
      rw [HQ.out, List.take_of_length_le (by simp)]
      rfl
/-- The reference's value of a text in hexadecimal digits, modulo 2^64. -/
def hstep (X : Nat) (c : UInt8) : Nat := (IntKind.u64.wrap (16 * (X : Int) + IntKind.u64.wrap (if 97 ≤ c.toNat then (c.toNat : Int) - 87 else (c.toNat : Int) - 48))).toNat
theorem hstep_eq (X : Nat) (c : UInt8) : ((hstep X c : Nat) : Int) = IntKind.u64.wrap (16 * (X : Int) + IntKind.u64.wrap (if 97 ≤ c.toNat then (c.toNat : Int) - 87 else (c.toNat : Int) - 48)) := by
  unfold hstep
  rw [Int.toNat_of_nonneg]
  rw [IntKind.wrap_u64]
  exact Int.emod_nonneg _ (by decide)
theorem hstep_lt (X : Nat) (c : UInt8) : hstep X c < 18446744073709551616 := by
  have h := hstep_eq X c
  rw [IntKind.wrap_u64] at h
  omega
theorem hstep_dgc (X d : Nat) (hd : d < 16) : hstep X (dgc d) = (16 * X + d) % 18446744073709551616 := by
  have h := hstep_eq X (dgc d)
  have e : (if 97 ≤ (dgc d).toNat then ((dgc d).toNat : Int) - 87 else ((dgc d).toNat : Int) - 48) = d := by
    rcases Nat.lt_or_ge d 10 with h1 | h1
    · rw [dgc_lt d h1, if_neg (by omega)]; omega
    · rw [dgc_ge d h1 hd, if_pos (by omega)]; omega
  rw [e, IntKind.wrap_u64, IntKind.wrap_u64] at h
  omega
def hv (l : List UInt8) : Nat := l.foldl hstep 0
theorem hv_snoc (l : List UInt8) (c : UInt8) : hv (l ++ [c]) = hstep (hv l) c := by unfold hv; rw [List.foldl_append, List.foldl_cons, List.foldl_nil]
theorem hv_digL0 (u : Nat) : ∀ (L acc : Nat), acc < 18446744073709551616 → (digL 16 u L).foldl hstep acc = (acc * 16 ^ L + u % 16 ^ L) % 18446744073709551616
  | 0, acc, h => by rw [digL_zero]; simp [Nat.mod_one]; omega
  | L + 1, acc, h => by
    have hd : u / 16 ^ L % 16 < 16 := Nat.mod_lt _ (by decide)
    rw [digL_succ, List.foldl_cons, hstep_dgc _ _ hd, hv_digL0 u L _ (Nat.mod_lt _ (by decide)), Nat.mod_pow_succ, Nat.pow_succ]
    have e : acc * (16 ^ L * 16) + (u % 16 ^ L + 16 ^ L * (u / 16 ^ L % 16)) = (16 * acc + u / 16 ^ L % 16) * 16 ^ L + u % 16 ^ L := by
      rw [Nat.add_mul, Nat.mul_comm (16 ^ L) 16, ← Nat.mul_assoc, Nat.mul_comm acc 16, Nat.mul_comm (16 ^ L) (u / 16 ^ L % 16)]
      omega
    rw [e]
    generalize 16 * acc + u / 16 ^ L % 16 = A
    generalize u % 16 ^ L = B
    rw [Nat.add_mod, Nat.mul_mod, Nat.mod_mod, ← Nat.mul_mod, ← Nat.add_mod]
theorem hv_num (m : Nat) (h : m < 16 ^ 16) : hv (digL 16 m 16) = m := by
  have h2 : m < 18446744073709551616 := h
  unfold hv
  rw [hv_digL0 m 16 0 (by omega), Nat.mod_eq_of_lt h, Nat.zero_mul, Nat.zero_add, Nat.mod_eq_of_lt h2]
theorem hv_lt (l : List UInt8) : hv l < 18446744073709551616 := by
  rcases List.eq_nil_or_concat l with rfl | ⟨l', c, rfl⟩
  · show 0 < 18446744073709551616
    omega
  · rw [List.concat_eq_append, hv_snoc]; exact hstep_lt _ _
theorem hv_eq (l : List UInt8) (h : digL 16 (hv l) 16 = l) : numOf 16 16 l = some (hv l) := by
  have hlt : hv l < 16 ^ 16 := hv_lt l
  generalize hv l = m at h hlt
  subst h
  exact numOf_digL 16 16 m (by decide) (by decide) hlt
theorem hv_ne (l : List UInt8) (h : ¬ digL 16 (hv l) 16 = l) : numOf 16 16 l = none := by
  cases hn : numOf 16 16 l with
  | none => rfl
  | some m =>
    have h1 := numOf_lt (numOf_len hn) hn
    exfalso
    apply h
    have e : hv l = m := by rw [← numOf_some hn]; exact hv_num m h1
    rw [e]
    exact numOf_some hn
def HexRPost (l : List UInt8) (w : World) (e : Ending) (w' : World) : Prop :=
  (match numOf 16 16 l with
    | some n => e = .returned (.tuple #[.int .u64 n, .bool true])
    | none => e = .returned (.tuple #[.int .u64 0, .bool false])) ∧ w = w'
set_option maxHeartbeats 2000000 in
theorem parseHex_ref (t : ByteArray) (ht : t.size ≤ 1000) (w : World) :
    Calls Tryd.prog 32 #[.string t] w (HexRPost t.data.toList w) := by
  have hlen : t.data.toList.length = t.size := Lib.size_eq t
  by_cases hs : t.size = 16
  · have HLEN := Lib.hid (hlen.trans hs)
    clear hlen
    have hs' : t.size ≤ 16 ∧ 16 ≤ t.size := by omega
    obtain ⟨hs0, hs1⟩ := hs'
    have hne : ((t.size : Int) != 16) = false := by rw [bne_eq_false_iff_eq]; omega
    clear hs
    go_enter Tryd.func32, Tryd.ntmps32
    go_wp2
    go_loop [4, 5, 6] (fun x i _ => ∃ (k X : Nat), k ≤ 16 ∧ i = .int .i64 k ∧ x = .int .u64 X ∧ X < 18446744073709551616 ∧ Hid (X = hv (t.data.toList.take k))) (fun _ i _ => 16 - (intOf i).toNat)
    case atStart => exact ⟨0, 0, by omega, rfl, rfl, by omega, Lib.hid rfl⟩
    case round =>
      obtain ⟨k, X, hk, rfl, rfl, hX, H⟩ := hrel
      by_cases hlt : k < 16
      · have hlt2 : k < t.size := by omega
        have hst : ((hv (t.data.toList.take (k + 1)) : Nat) : Int) = IntKind.u64.wrap (16 * (X : Int) + IntKind.u64.wrap (if 97 ≤ t[k].toNat then (t[k].toNat : Int) - 87 else (t[k].toNat : Int) - 48)) := by
          rw [take_snoc t k hlt2, hv_snoc, ← H.out, hstep_eq]
        have hc := t[k].toNat_lt
        by_cases h97 : 97 ≤ t[k].toNat
        · rw [if_pos h97] at hst
          have HS := Lib.hid hst
          clear hst
          go_wp2
          go_round
          case rel => exact ⟨k + 1, hv (t.data.toList.take (k + 1)), by omega, by go_num, by rw [HS.out]; congr 1; simp only [IntKind.wrap_u64]; omega, hv_lt _, Lib.hid rfl⟩
          case measure => simp [intOf]; omega
        · rw [if_neg h97] at hst
          have HS := Lib.hid hst
          clear hst
          go_wp2
          go_round
          case rel => exact ⟨k + 1, hv (t.data.toList.take (k + 1)), by omega, by go_num, by rw [HS.out]; congr 1; simp only [IntKind.wrap_u64]; omega, hv_lt _, Lib.hid rfl⟩
          case measure => simp [intOf]; omega
      · obtain rfl : k = 16 := by omega
        have hN : X = hv t.data.toList := by rw [H.out, List.take_of_length_le (by have := HLEN.out; omega)]
        have HN := Lib.hid hN
        have C := fun w => hex_ref X hX w
        clear hN hlt H
        by_cases hq : digL 16 X 16 = t.data.toList
        · have HM := Lib.hid (hv_eq t.data.toList (by rw [← HN.out]; exact hq))
          have hqt : (digL 16 X 16 == t.toList) = true := by rw [ByteArray.toList_eq, hq]; simp
          clear hq
          go_wp2_with (go_at_call 36; refine (C _).mono ?_; rintro e w1 ⟨rfl, rfl⟩)
          go_ret2
          unfold HexRPost
          rw [HM.out, ← HN.out]
          exact ⟨rfl, rfl⟩
        · have HR : Hid (numOf 16 16 t.data.toList = none) := Lib.hid (hv_ne _ (by rw [← HN.out]; exact hq))
          have hqt : (digL 16 X 16 == t.toList) = false := by rw [ByteArray.toList_eq]; simpa using hq
          clear hq
          go_wp2_with (go_at_call 36; refine (C _).mono ?_; rintro e w1 ⟨rfl, rfl⟩)
          go_ret2
          unfold HexRPost
          rw [HR.out]
          exact ⟨rfl, rfl⟩
  · have HR : Hid (numOf 16 16 t.data.toList = none) := Lib.hid (by
      cases h2 : numOf 16 16 t.data.toList with
      | none => rfl
      | some n => exact absurd (hlen.symm.trans (numOf_len h2)) hs)
    have hne : ((t.size : Int) != 16) = true := by rw [bne_iff_ne]; omega
    clear hs hlen
    go_enter Tryd.func32, Tryd.ntmps32
    go_wp2
    go_ret2
    unfold HexRPost
    rw [HR.out]
    exact ⟨rfl, rfl⟩
set_option maxHeartbeats 4000000 in
theorem walk (t : ByteArray) (_ : t.size ≤ 9223372036854775807) (x : Nat) (hx : x < 18446744073709551616) (s : ByteArray) (_ : s.size ≤ 9223372036854775807) (w : World) (h : LaidE w) :
    Calls Tryd.prog 8 #[.string t, .int .u64 x, .string s] w fun e w' => e = .returned (.bool true) ∧ Below w.heap.size w w' := by
  by_cases hs : t.size ≤ 4000 ∧ s.size ≤ 1000
  · obtain ⟨hts, hs⟩ := hs
    have C1 := fun w (h : Laid w) => hex_any x hx w h
    have C2 := fun w => hex_ref x hx w
    have hsz : (ByteArray.mk (digL 16 x 16).toArray).size ≤ 1000 := by rw [size_of_list, digL_length]; omega
    have C3 : ∀ w, LaidE w → Calls Tryd.prog 31 #[.string ⟨(digL 16 x 16).toArray⟩] w fun e w' => e = .returned (.tuple #[.int .u64 x, .int .i64 0]) ∧ Below w.heap.size w w' := fun w h => (parseHex_any _ hsz w h).mono fun e w' he => by
      unfold PdPost at he
      have hn : numOf 16 16 (ByteArray.mk (digL 16 x 16).toArray).data.toList = some x := numOf_digL 16 16 x (by decide) (by decide) hx
      rw [hn] at he
      exact he
    have C4 := fun w (h : Laid w) => sum_any t hts w h
    have C5 := fun w => sum_ref t hts w
    have P1 := parseHex_any s hs w h
    have P2 := fun w => parseHex_ref s hs w
    generalize sumN t.data.toList = y at *
    clear hsz
    have HC1 := Lib.hid C1
    have HC3 := Lib.hid C3
    have HC4 := Lib.hid C4
    have HE := Lib.hid h
    cases hp : numOf 16 16 s.data.toList
    all_goals
      unfold PdPost at P1
      unfold HexRPost at P2
      rw [hp] at P1
      simp only [hp] at P2
      clear hp C1 C3 C4 h
      go_enter Tryd.func8, Tryd.ntmps8
      go_wp2_with (go_at_call 31; refine P1.mono ?_; rintro e w1 ⟨rfl, hb1⟩; refine Hid.out ?_)
      have h1 := HE.out.on hb1
      have A1 := HC1.out w1 h1.laid
      have HB1 := Lib.hid (And.intro h1 hb1)
      clear h1 hb1 P1
      refine Lib.hid ?_
      go_wp2_with (first | (go_at_call 32; refine (P2 _).mono ?_; rintro e w2 ⟨rfl, rfl⟩) | (go_at_call 33; refine A1.mono ?_; rintro e w2 ⟨rfl, hb2⟩; refine Hid.out ?_))
      have h2 := HB1.out.1.on hb2
      have A2 := HC3.out w2 h2
      have HB2 := Lib.hid (And.intro h2 hb2)
      clear h2 hb2 A1
      refine Lib.hid ?_
      go_wp2_with (go_at_call 31; refine A2.mono ?_; rintro e w3 ⟨rfl, hb3⟩; refine Hid.out ?_)
      have h3 := HB2.out.1.on hb3
      have A3 := HC4.out w3 h3.laid
      have HB3 := Lib.hid (And.intro h3 hb3)
      clear h3 hb3 A2
      refine Lib.hid ?_
      go_wp2_with (go_at_call 34; refine A3.mono ?_; rintro e w4 ⟨rfl, hb4⟩; refine Hid.out ?_)
      have h4 := HB3.out.1.on hb4
      have A4 := HC1.out w4 h4.laid
      have HB4 := Lib.hid (And.intro h4 hb4)
      clear h4 hb4 A3
      refine Lib.hid ?_
      go_wp2_with (first | (go_at_call 35; refine (C5 _).mono ?_; rintro e w5 ⟨rfl, rfl⟩) | (go_at_call 33; refine A4.mono ?_; rintro e w5 ⟨rfl, hb5⟩; refine Hid.out ?_))
      have h5 := HB4.out.1.on hb5
      have A5 := awake_any w5 h5.laid
      have HB5 := Lib.hid hb5
      clear h5 hb5 A4
      refine Lib.hid ?_
      go_wp2_with (first | (go_at_call 36; refine (C2 _).mono ?_; rintro e w6 ⟨rfl, rfl⟩) | (go_at_call 15; first | ((with_reducible refine (is_ok _).mono ?_); rintro e w6 ⟨rfl, rfl⟩) | ((with_reducible refine (is_form _).mono ?_); rintro e w6 ⟨rfl, rfl⟩)) | (go_at_call 10; refine A5.mono ?_; rintro e w6 ⟨rfl, hb6⟩; have HB6 := Lib.hid hb6; clear hb6))
      go_ret
      exact ⟨rfl, fin (fin (fin (fin (fin HB1.out.2 HB2.out.2) HB3.out.2) HB4.out.2) HB5.out) HB6.out⟩
  · have A := awake_any w h.laid
    have hs' : 4000 < t.size ∨ t.size ≤ 4000 ∧ 1000 < s.size := by omega
    clear h hs
    rcases hs' with hs' | ⟨hs0, hs'⟩
    all_goals
      go_enter Tryd.func8, Tryd.ntmps8
      go_wp2_with (go_at_call 10; refine A.mono ?_; rintro e w1 ⟨rfl, hb⟩; have HB := Lib.hid hb; clear hb)
      go_ret
      exact ⟨rfl, HB.out⟩
end Go.Proofs.YtgoekfonbpffdaaDoor.bitsSumsw
