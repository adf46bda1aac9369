/-
  The program's and the reference's ParseRwx, and the walk of BitsLetters: for every int and every text it returns true; of what was there nothing has turned. Condition: LaidE's first part.
-/
import Derived.Test.YtgoekfonbpffdaaDoorLettersMath2
import Derived.Test.YtgoekfonbpffdaaDoorLettersRef
import Derived.Test.YtgoekfonbpffdaaDoorOctalWalk
import Derived.Deep.QuietTactic
import Derived.BigQuiet
namespace Go.Proofs.YtgoekfonbpffdaaDoor.bitsLettersw
open Go.RowKit Go.Sort
set_option maxHeartbeats 400000 in
theorem own_any (i : Nat) (_ : i < 9) (w : World) :
    Calls Tryd.prog 46 #[.int .i64 i] w fun e w' => e = .returned (.int .i64 (8 - i)) ∧ w' = w := by
  go_enter Tryd.func46, Tryd.ntmps46
  go_wp2
  go_ret
  exact ⟨rfl, rfl⟩
set_option maxHeartbeats 400000 in
theorem high_any (i : Nat) (_ : i < 9) (w : World) :
    Calls Tryd.prog 47 #[.int .i64 i] w fun e w' => e = .returned (.int .i64 (11 - i / 3)) ∧ w' = w := by
  go_enter Tryd.func47, Tryd.ntmps47
  go_wp2
  go_ret
  exact ⟨rfl, rfl⟩
theorem let_any (k : Nat) (hk : k < 9) (w : World) : (Instr.index 53 (.agg letArr) (.int .i64 (k : Int))).run Tryd.prog w = .ok (.string (rowAt k)) w := by
  have hk9 : k = 0 ∨ k = 1 ∨ k = 2 ∨ k = 3 ∨ k = 4 ∨ k = 5 ∨ k = 6 ∨ k = 7 ∨ k = 8 := by omega
  rcases hk9 with rfl | rfl | rfl | rfl | rfl | rfl | rfl | rfl | rfl
  · exact let0 w
  · exact let1 w
  · exact let2 w
  · exact let3 w
  · exact let4 w
  · exact let5 w
  · exact let6 w
  · exact let7 w
  · exact let8 w
theorem pm_none {l : List UInt8} {k : Nat} (h : pm l k = none) : ∀ j, pm l (k + j) = none
  | 0 => h
  | j + 1 => by
    have := pm_none h j
    show pm l ((k + j) + 1) = none
    unfold pm
    rw [this]
def RwxPost (s : ByteArray) (w : World) (e : Ending) (w' : World) : Prop :=
  (match numR s.data.toList with
    | some n => e = .returned (.tuple #[.int .i64 n, .int .i64 0])
    | none => e = .returned (.tuple #[.int .i64 0, .int .i64 2])) ∧ Below w.heap.size w w'
theorem idx_hi (i : Nat) (c : UInt8) : idx i c ≤ 3 := by
  unfold idx rowAt
  split
  · rw [rowR_l, ix2]; split <;> (try split) <;> omega
  · split
    · rw [rowW_l, ix2]; split <;> (try split) <;> omega
    · split
      · rw [rowT_l, ix4]; split <;> (try split) <;> (try split) <;> (try split) <;> omega
      · rw [rowS_l, ix4]; split <;> (try split) <;> (try split) <;> (try split) <;> omega
theorem or_nat (a b : Nat) (ha : a < 4096) (hb : b < 4096) : bits .or .i64 (a : Int) (b : Int) = ((a ||| b : Nat) : Int) ∧ a ||| b < 4096 := by
  have h : a ||| b < 2 ^ 12 := Nat.or_lt_two_pow ha hb
  refine ⟨?_, h⟩
  show IntKind.i64.wrap ((BitVec.ofInt 64 (a : Int) ||| BitVec.ofInt 64 (b : Int)).toNat : Int) = _
  rw [BitVec.toNat_or, ofInt_nat a (by omega), ofInt_nat b (by omega)]
  have h2 : a ||| b < 4096 := h
  exact wrap_i64_id _ (by omega) (by omega)
theorem contrib_fin : ∀ (k : Fin 9) (K : Fin 4), bits .or .i64 (wrap64 (bits .and .i64 (K.val : Int) 1 * 2 ^ (8 - k.val))) (wrap64 ((K.val : Int) / 2 * 2 ^ (11 - k.val / 3))) = ((contrib k.val K.val : Nat) : Int) ∧ contrib k.val K.val < 4096 := by decide +kernel
theorem or_contrib (M k : Nat) (K : Int) (hM : M < 4096) (hk : k < 9) (h0 : 0 ≤ K) (h3 : K ≤ 3) :
    bits .or .i64 (M : Int) (bits .or .i64 (wrap64 (bits .and .i64 K 1 * 2 ^ (8 - k))) (wrap64 (K / 2 * 2 ^ (11 - k / 3)))) = ((M ||| contrib k K.toNat : Nat) : Int) ∧ M ||| contrib k K.toNat < 4096 := by
  obtain ⟨N, rfl⟩ : ∃ N : Nat, K = N := ⟨K.toNat, by omega⟩
  have h := contrib_fin ⟨k, hk⟩ ⟨N, by omega⟩
  simp only at h
  rw [h.1, Int.toNat_natCast]
  exact or_nat M _ hM h.2
set_option maxRecDepth 100000 in
set_option maxHeartbeats 4000000 in
theorem parseRwx_any (s : ByteArray) (hs : s.size ≤ 1000) (w : World) (h : Laid w) : Calls Tryd.prog 23 #[.string s] w (RwxPost s w) := by
  have hlen : s.data.toList.length = s.size := Lib.size_eq s
  by_cases h9 : s.size = 9
  · obtain ⟨t0, fr0, hg⟩ := block_of_var gLetters h.letters
    have HLEN := Lib.hid (hlen.trans h9)
    have hne : ((s.size : Int) != 9) = false := by rw [bne_eq_false_iff_eq]; omega
    have hs9 : 9 ≤ s.size := by omega
    clear h hlen h9
    go_enter Tryd.func23, Tryd.ntmps23
    go_wp2_with (refine wpList_load_row rfl 53 _ rfl 0 rfl t0 letArr fr0 _ hg Tryd.underlying53 rfl (by kernel_rfl) ?_)
    clear hg
    go_loopw [4, 5, 6, 7, 12] (fun vm _ _ _ vi wr => ∃ (k M : Nat), vi = .int .i64 k ∧ vm = .int .i64 M ∧ k ≤ 9 ∧ M < 4096 ∧ Hid (pm s.data.toList k = some M) ∧ Hid (Below w.heap.size w wr)) (fun _ _ _ _ vi _ => 9 - (intOf vi).toNat)
    case atStart => exact ⟨0, 0, rfl, rfl, by omega, by omega, Lib.hid rfl, Lib.hid (Below.refl _ _)⟩
    case round =>
      obtain ⟨k, M, rfl, rfl, hk, hM, HP, HB⟩ := hrel
      rename World => W0
      by_cases hlt : k < 9
      · have hlt2 : k < s.size := by omega
        have hl := let_any k hlt
        have hIB : ∀ w, Calls Tryd.prog 45 #[.string (rowAt k), .int .u8 (s[k].toNat : Int)] w fun e w' => e = .returned (.int .i64 (idx k s[k])) ∧ w = w' := fun w =>
          (Tryd.strings_IndexByte (rowAt k) (s[k].toNat : Int) w).mono fun e w' he => ⟨by rw [he.1]; unfold idx; rw [Int.toNat_natCast]; simp, he.2.symm⟩
        have hhi := idx_hi k s[k]
        have hst : pm s.data.toList (k + 1) = pstep k s[k] M := by
          have e : s.data.toList.getD k 0 = s[k] := by
            rw [List.getD, List.getElem?_eq_getElem (by rw [HLEN.out]; omega)]
            rfl
          show (match pm s.data.toList k with | some M => pstep k (s.data.toList.getD k 0) M | none => none) = _
          rw [HP.out, e]
        have HST := Lib.hid hst
        have hQ1 := own_any k hlt W0
        have hQ2 := high_any k hlt W0
        clear hst
        have HX : Hid (idx k s[k] = idx k s[k]) := Lib.hid rfl
        obtain ⟨K, hK⟩ : ∃ K, K = idx k s[k] := ⟨_, rfl⟩
        rw [← hK] at hIB hhi
        have HK := Lib.hid hK
        clear hK
        by_cases hneg : K < 0
        · have HN : Hid (numR s.data.toList = none) := Lib.hid (by
            unfold numR
            rw [if_pos HLEN.out]
            have h1 : pm s.data.toList (k + 1) = none := by rw [HST.out]; unfold pstep; rw [if_pos (by rw [← HK.out]; exact hneg)]
            have h2 := pm_none h1 (9 - (k + 1))
            have e : k + 1 + (9 - (k + 1)) = 9 := by omega
            rwa [e] at h2)
          clear hQ1 hQ2
          go_wp2_with (go_at_call 45; refine (hIB _).mono ?_; rintro e w1 ⟨rfl, rfl⟩)
          go_ret2
          unfold RwxPost
          rw [HN.out]
          exact ⟨rfl, HB.out⟩
        · have h8 : 0 ≤ 8 - (k : Int) ∧ 0 ≤ 11 - (k : Int) / 3 := by omega
          obtain ⟨h8, h11⟩ := h8
          go_wp2_with (go_at_call 45; refine (hIB _).mono ?_; rintro e w1 ⟨rfl, rfl⟩)
          go_quiet ((first | (go_at_call 46; exact Calls.quiet_of_same (own_any k hlt _)) | (go_at_call 47; exact Calls.quiet_of_same (high_any k hlt _))))
          have HO := Lib.hid (or_contrib M k K hM hlt (by omega) hhi)
          have HN : Hid (pm s.data.toList (k + 1) = some (M ||| contrib k K.toNat)) := Lib.hid (by rw [HST.out]; unfold pstep; rw [if_neg (by rw [← HK.out]; omega), ← HK.out])
          go_wp2
          go_roundw
          case rel => exact ⟨k + 1, M ||| contrib k K.toNat, by go_num, by rw [HO.out.1], by omega, HO.out.2, HN, Lib.hid (below_drewN HB.out _)⟩
          case measure => simp [intOf]; omega
      · obtain rfl : k = 9 := by omega
        have HN : Hid (numR s.data.toList = some M) := Lib.hid (by unfold numR; rw [if_pos HLEN.out]; exact HP.out)
        go_wp2
        go_ret2
        unfold RwxPost
        rw [HN.out]
        exact ⟨rfl, HB.out⟩
  · have HN : Hid (numR s.data.toList = none) := Lib.hid (by unfold numR; rw [if_neg (by rw [hlen]; exact h9)])
    have hne : ((s.size : Int) != 9) = true := by rw [bne_iff_ne]; omega
    clear h hlen h9
    go_enter Tryd.func23, Tryd.ntmps23
    go_wp2
    go_ret2
    unfold RwxPost
    rw [HN.out]
    exact ⟨rfl, Below.refl _ _⟩
def RwxRPost (l : List UInt8) (w : World) (e : Ending) (w' : World) : Prop :=
  (match numR l with
    | some n => e = .returned (.tuple #[.int .i64 n, .bool true])
    | none => e = .returned (.tuple #[.int .i64 0, .bool false])) ∧ w = w'
set_option maxRecDepth 100000 in
set_option maxHeartbeats 2000000 in
theorem parseRwx_ref (s : ByteArray) (w : World) : Calls Tryd.prog 24 #[.string s] w (RwxRPost s.data.toList w) := by
  have hlen : s.data.toList.length = s.size := Lib.size_eq s
  by_cases h9 : s.size = 9
  · have HLEN := Lib.hid (hlen.trans h9)
    have hne : ((s.size : Int) != 9) = false := by rw [bne_eq_false_iff_eq]; omega
    clear hlen h9
    go_enter Tryd.func24, Tryd.ntmps24
    go_wp2
    go_loop [4] (fun i => ∃ k : Nat, i = .int .i64 k ∧ k ≤ 4096 ∧ Hid (∀ j : Nat, j < k → rwxL (j : Int) ≠ s.data.toList)) (fun i => 4096 - (intOf i).toNat)
    case atStart => exact ⟨0, rfl, by omega, Lib.hid (fun j hj => by omega)⟩
    case round =>
      obtain ⟨k, rfl, hk, H⟩ := hrel
      by_cases hlt : k < 4096
      · have C := fun w => rwx_ref k w
        by_cases hq : rwxL (k : Int) = s.data.toList
        · have HN : Hid (numR s.data.toList = some k) := Lib.hid (by rw [← hq]; exact numR_rwx k hlt)
          have hqt : (rwxL (k : Int) == s.toList) = true := by rw [ByteArray.toList_eq, hq]; simp
          clear hq
          go_wp2_with (go_at_call 26; refine (C _).mono ?_; rintro e w1 ⟨rfl, rfl⟩)
          go_ret2
          unfold RwxRPost
          rw [HN.out]
          exact ⟨rfl, rfl⟩
        · have HQ := Lib.hid hq
          have hqt : (rwxL (k : Int) == s.toList) = false := by rw [ByteArray.toList_eq]; simpa using hq
          clear hq
          go_wp2_with (go_at_call 26; refine (C _).mono ?_; rintro e w1 ⟨rfl, rfl⟩)
          go_round
          case rel => exact ⟨k + 1, by go_num, by omega, Lib.hid (fun j hj => by
            rcases Nat.lt_or_ge j k with h1 | h1
            · exact H.out j h1
            · have : j = k := by omega
              subst this
              exact HQ.out)⟩
          case measure => simp [intOf]; omega
      · obtain rfl : k = 4096 := by omega
        have HN : Hid (numR s.data.toList = none) := Lib.hid (by
          cases hn : numR s.data.toList with
          | none => rfl
          | some m => exact absurd (numR_some hn).2 (H.out m (numR_some hn).1))
        go_wp2
        go_ret2
        unfold RwxRPost
        rw [HN.out]
        exact ⟨rfl, rfl⟩
  · have HN : Hid (numR s.data.toList = none) := Lib.hid (by unfold numR; rw [if_neg (by rw [hlen]; exact h9)])
    have hne : ((s.size : Int) != 9) = true := by rw [bne_iff_ne]; omega
    clear hlen h9
    go_enter Tryd.func24, Tryd.ntmps24
    go_wp2
    go_ret2
    unfold RwxRPost
    rw [HN.out]
    exact ⟨rfl, rfl⟩
set_option maxHeartbeats 4000000 in
theorem walk (m : Int) (_ : -9223372036854775808 ≤ m ∧ m ≤ 9223372036854775807) (s : ByteArray) (_ : s.size ≤ 9223372036854775807) (w : World) (h : Laid w) :
    Calls Tryd.prog 5 #[.int .i64 m, .string s] w fun e w' => e = .returned (.bool true) ∧ Below w.heap.size w w' := by
  by_cases hs : s.size ≤ 1000
  · have hlow := fun w => low_any m 12 (by omega) w
    have e12 : (2 : Int) ^ 12 = 4096 := by decide
    have hq : m % 4096 = ((nat64 m % 4096 : Nat) : Int) := (nat64_mod m 12 (by decide)).symm
    have hlt : nat64 m % 4096 < 4096 := Nat.mod_lt _ (by decide)
    have C1 := fun w (h : Laid w) => rwx_any m w h
    have C2 := fun w => rwx_ref m w
    have hrw := rwxL_low m
    have hln := rwxL_len m
    rw [e12, hq] at hlow
    generalize nat64 m % 4096 = q at *
    generalize rwxL m = L at *
    have hsz : (ByteArray.mk L.toArray).size ≤ 1000 := by rw [size_of_list]; omega
    have C3 : ∀ w, Laid w → Calls Tryd.prog 23 #[.string ⟨L.toArray⟩] w fun e w' => e = .returned (.tuple #[.int .i64 q, .int .i64 0]) ∧ Below w.heap.size w w' := fun w h => (parseRwx_any _ hsz w h).mono fun e w' he => by
      unfold RwxPost at he
      have hn : numR (ByteArray.mk L.toArray).data.toList = some q := by
        show numR L = some q
        rw [hrw]; exact numR_rwx q hlt
      rw [hn] at he
      exact he
    have P1 := parseRwx_any s hs w h
    have P2 := fun w => parseRwx_ref s w
    clear hsz hlt hq e12 hrw hln
    have HC1 := Lib.hid C1
    have HC3 := Lib.hid C3
    have HE := Lib.hid h
    cases hp : numR s.data.toList
    all_goals
      unfold RwxPost at P1
      unfold RwxRPost at P2
      rw [hp] at P1
      simp only [hp] at P2
      clear hp C1 C3 h
      go_enter Tryd.func5, Tryd.ntmps5
      go_wp2_with (go_at_call 23; refine P1.mono ?_; rintro e w1 ⟨rfl, hb1⟩; refine Hid.out ?_)
      have h1 := HE.out.on hb1
      have A1 := HC1.out w1 h1
      have HB1 := Lib.hid (And.intro h1 hb1)
      clear h1 hb1 P1
      refine Lib.hid ?_
      go_wp2_with (first | (go_at_call 24; refine (P2 _).mono ?_; rintro e w2 ⟨rfl, rfl⟩) | (go_at_call 25; refine A1.mono ?_; rintro e w2 ⟨rfl, hb2⟩; refine Hid.out ?_))
      have h2 := HB1.out.1.on hb2
      have A2 := HC3.out w2 h2
      have HB2 := Lib.hid (And.intro h2 hb2)
      clear h2 hb2 A1
      refine Lib.hid ?_
      go_wp2_with (go_at_call 23; refine A2.mono ?_; rintro e w3 ⟨rfl, hb3⟩; refine Hid.out ?_)
      have h3 := HB2.out.1.on hb3
      have A3 := HC1.out w3 h3
      have HB3 := Lib.hid (And.intro h3 hb3)
      clear h3 hb3 A2
      refine Lib.hid ?_
      go_wp2_with (go_at_call 25; refine A3.mono ?_; rintro e w4 ⟨rfl, hb4⟩; refine Hid.out ?_)
      have h4 := HB3.out.1.on hb4
      have A4 := awake_any w4 h4
      have HB4 := Lib.hid hb4
      clear h4 hb4 A3
      refine Lib.hid ?_
      go_wp2_with (first | (go_at_call 26; refine (C2 _).mono ?_; rintro e w5 ⟨rfl, rfl⟩) | (go_at_call 15; first | ((with_reducible refine (is_ok _).mono ?_); rintro e w5 ⟨rfl, rfl⟩) | ((with_reducible refine (is_form _).mono ?_); rintro e w5 ⟨rfl, rfl⟩)) | (go_at_call 16; refine (hlow _).mono ?_; rintro e w5 ⟨rfl, rfl⟩) | (go_at_call 10; refine A4.mono ?_; rintro e w5 ⟨rfl, hb5⟩; have HB5 := Lib.hid hb5; clear hb5))
      go_ret
      exact ⟨rfl, fin (fin (fin (fin HB1.out.2 HB2.out.2) HB3.out.2) HB4.out) HB5.out⟩
  · have A := awake_any w h
    have hs' : 1000 < s.size := by omega
    clear h hs
    go_enter Tryd.func5, Tryd.ntmps5
    go_wp2_with (go_at_call 10; refine A.mono ?_; rintro e w1 ⟨rfl, hb⟩; have HB := Lib.hid hb; clear hb)
    go_ret
    exact ⟨rfl, HB.out⟩
end Go.Proofs.YtgoekfonbpffdaaDoor.bitsLettersw
