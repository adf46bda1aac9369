/-
  The program's parseDigits, ParseOctal and ParseHex, for every text of at most 1000 bytes: the number whose numeral the text is, or EFORM; of what was there nothing has turned. Conditions: the listed variables are laid. The reference's Octal, Hex, Sum, ParseOctal and ParseHex: what each returns for every argument (a text of at most 1000 bytes, of at most 4000 for the sum); the world stays as it was. The walk of BitsOctal: for every int and every text it returns true; of what was there nothing has turned. Condition: LaidE. The program's Int, the reference's Text and Int, and the walk of BitsTexts: for every int and every text it returns true; of what was there nothing has turned. Condition: LaidE.
-/
import Derived.Test.YtmjfbpiodamamaaGreatDoorErrs
import Derived.Test.YtmjfbpiodamamaaGreatDoorBase
import Derived.Test.YtmjfbpiodamamaaGreatDoorParseMath
import Derived.Shelf.Strconv.AtoiAll
import Derived.Shelf.Strconv.ErrVarAll
import Derived.Test.YtmjfbpiodamamaaGreatDoorTextsMath
namespace Go.Proofs.YtmjfbpiodamamaaGreatDoor
open Go.RowKit Go.Sort
/-- What a reader of numerals returns: the number and OK, or 0 and EFORM. -/
def PdPost (b W : Nat) (s : ByteArray) (w : World) (e : Ending) (w' : World) : Prop :=
  (match numOf b W s.data.toList with
    | some n => e = .returned (.tuple #[.int .u64 n, .int .i64 0])
    | none => e = .returned (.tuple #[.int .u64 0, .int .i64 2])) ∧ Below w.heap.size w w'
set_option maxHeartbeats 1000000 in
theorem parseDigits_any (b W sh : Nat) (hb : b = 8 ∧ sh = 3 ∧ W = 4 ∨ b = 16 ∧ sh = 4 ∧ W = 16) (t : ByteArray) (ht : t.size ≤ 4000) (w : World) (h : LaidE w) :
    Calls Tryz.prog 99 #[.string t, .int .i64 b, .int .i64 W] w (PdPost b W t w) := by
  have HE := Lib.hid h
  have hlen : t.data.toList.length = t.size := Lib.size_eq t
  by_cases hsz : t.size = W
  · have HU := parseUint_any b W (by omega) t hsz w h
    have hbW : b = 8 ∧ W = 4 ∨ b = 16 ∧ W = 16 := by omega
    have HBW := Lib.hid hbW
    have hb2 : 1 < b ∧ b ≤ 16 ∧ 1 ≤ W ∧ W ≤ 22 := by omega
    obtain ⟨hb3, hb4, hW1, hW2⟩ := hb2
    have hbs : b = 8 ∧ sh = 3 ∨ b = 16 ∧ sh = 4 := by omega
    have HQ := Lib.hid hbs
    clear h hb hbs hbW
    cases hp : pv b 0 t.data.toList with
    | none =>
      have H2 : Calls Tryz.prog 117 #[.string t, .int .i64 b, .int .i64 64] w fun e w' => (∃ p, e = .returned (.tuple #[.int .u64 0, .iface 159 p])) ∧ Below w.heap.size w w' := HU.mono fun e w' he => by unfold Pu2Post at he; rw [hp] at he; exact he
      have hn : numOf b W t.data.toList = none := by unfold numOf; rw [hp]
      have HN := Lib.hid hn
      have hszi : ((t.size : Int) != (W : Int)) = false := by rw [bne_eq_false_iff_eq]; omega
      clear hp HU hn hlen hsz
      go_enter Tryz.func99, Tryz.ntmps99
      go_wp2_with (go_at_call 117; refine H2.mono ?_; rintro e w1 ⟨⟨p, rfl⟩, hbl⟩; have HB := Lib.hid hbl; clear hbl)
      go_ret2
      unfold PdPost
      rw [HN.out]
      exact ⟨rfl, HB.out⟩
    | some n =>
      have H2 : Calls Tryz.prog 117 #[.string t, .int .i64 b, .int .i64 64] w fun e w' => e = .returned (.tuple #[.int .u64 n, .nilIface]) ∧ Below w.heap.size w w' := HU.mono fun e w' he => by unfold Pu2Post at he; rw [hp] at he; exact he
      have hn := pv_lt b _ 0 n hp
      rw [hlen, hsz, Nat.zero_add, Nat.one_mul] at hn
      have hn64 : n < 18446744073709551616 := by
        have hbW : b = 8 ∧ W = 4 ∨ b = 16 ∧ W = 16 := HBW.out
        rcases hbW with ⟨rfl, rfl⟩ | ⟨rfl, rfl⟩
        · have e : (8 : Nat) ^ 4 = 4096 := by decide
          omega
        · have e : (16 : Nat) ^ 16 = 18446744073709551616 := by decide
          omega
      have HNN := Lib.hid hn
      have HP := Lib.hid hp
      have hszi : ((t.size : Int) != (W : Int)) = false := by rw [bne_eq_false_iff_eq]; omega
      clear hp HU hn hlen hsz
      go_enter Tryz.func99, Tryz.ntmps99
      go_wp2_with (go_at_call 117; refine H2.mono ?_; rintro e w1 ⟨rfl, hbl⟩; refine Hid.out ?_)
      have HPD := padded_any b sh n W HQ.out hn64 hW1 hW2 HNN.out w1 (HE.out.laid.on hbl)
      have HB := Lib.hid hbl
      clear hbl H2
      refine Lib.hid ?_
      go_wp2_with (go_at_call 50; refine HPD.mono ?_; rintro e w2 ⟨rfl, hbl2⟩; have HB2 := Lib.hid hbl2; clear hbl2)
      · go_ret2
        unfold PdPost
        have hq : ¬ digL b n W = t.data.toList := by
          have hw0 : (!digL b n W == t.toList) = true := by assumption
          intro e
          rw [ByteArray.toList_eq, e] at hw0
          simp at hw0
        have hn : numOf b W t.data.toList = none := by unfold numOf; rw [HP.out]; simp [hq]
        rw [hn]
        exact ⟨rfl, fin HB.out HB2.out⟩
      · go_ret2
        unfold PdPost
        have hq : digL b n W = t.data.toList := by
          have hw0 : (!digL b n W == t.toList) = false := by assumption
          rw [ByteArray.toList_eq] at hw0
          simpa using hw0
        have hn : numOf b W t.data.toList = some n := by unfold numOf; rw [HP.out]; simp [hq]
        rw [hn]
        exact ⟨rfl, fin HB.out HB2.out⟩
  · have hn : numOf b W t.data.toList = none := by
      cases h2 : numOf b W t.data.toList with
      | none => rfl
      | some n => exact absurd (hlen.symm.trans (numOf_len h2)) hsz
    have HN := Lib.hid hn
    have hszi : ((t.size : Int) != (W : Int)) = true := by rw [bne_iff_ne]; omega
    clear h hn hlen hsz hb
    go_enter Tryz.func99, Tryz.ntmps99
    go_wp2
    go_ret2
    unfold PdPost
    rw [HN.out]
    exact ⟨rfl, Below.refl _ _⟩
def OctPost (s : ByteArray) (w : World) (e : Ending) (w' : World) : Prop :=
  (match numOf 8 4 s.data.toList with
    | some n => e = .returned (.tuple #[.int .i64 n, .int .i64 0])
    | none => e = .returned (.tuple #[.int .i64 0, .int .i64 2])) ∧ Below w.heap.size w w'
set_option maxHeartbeats 1000000 in
theorem parseOctal_any (t : ByteArray) (ht : t.size ≤ 4000) (w : World) (h : LaidE w) :
    Calls Tryz.prog 79 #[.string t] w (OctPost t w) := by
  have H := parseDigits_any 8 4 3 (Or.inl ⟨rfl, rfl, rfl⟩) t ht w h
  have hlen : t.data.toList.length = t.size := Lib.size_eq t
  have HE := Lib.hid h
  clear h
  cases hp : numOf 8 4 t.data.toList with
  | none =>
    have H2 : Calls Tryz.prog 99 #[.string t, .int .i64 8, .int .i64 4] w fun e w' => e = .returned (.tuple #[.int .u64 0, .int .i64 2]) ∧ Below w.heap.size w w' := H.mono fun e w' he => by unfold PdPost at he; rw [hp] at he; exact he
    have HP := Lib.hid hp
    clear hp H
    go_enter Tryz.func79, Tryz.ntmps79
    go_wp2_with (go_at_call 99; refine H2.mono ?_; rintro e w1 ⟨rfl, hbl⟩; have HB := Lib.hid hbl; clear hbl)
    go_ret2
    unfold OctPost
    rw [HP.out]
    exact ⟨rfl, HB.out⟩
  | some n =>
    have H2 : Calls Tryz.prog 99 #[.string t, .int .i64 8, .int .i64 4] w fun e w' => e = .returned (.tuple #[.int .u64 n, .int .i64 0]) ∧ Below w.heap.size w w' := H.mono fun e w' he => by unfold PdPost at he; rw [hp] at he; exact he
    have hn := numOf_lt (numOf_len hp) hp
    have hn2 : n < 4096 := hn
    have HP := Lib.hid hp
    clear hp H hn
    go_enter Tryz.func79, Tryz.ntmps79
    go_wp2_with (go_at_call 99; refine H2.mono ?_; rintro e w1 ⟨rfl, hbl⟩; have HB := Lib.hid hbl; clear hbl)
    go_ret2
    unfold OctPost
    rw [HP.out]
    exact ⟨rfl, HB.out⟩
end Go.Proofs.YtmjfbpiodamamaaGreatDoor
namespace Go.Proofs.YtmjfbpiodamamaaGreatDoor
open Go.RowKit Go.Sort
theorem enc_fin : ∀ d : Fin 16, Utf8.encode ((dgc d.val).toNat : Int) = ⟨#[dgc d.val]⟩ := by decide +kernel
theorem rune_at (d : Nat) (hd : d < 16) (z : Int) (hz : z = ((dgc d).toNat : Int)) (w : World) : (convert 21 9 (.int .i32 z)).run Tryz.prog w = .ok (.string ⟨#[dgc d]⟩) w := by
  rw [run_convert_int_string w 21 9 .i32 _ (by kernel_rfl) Tryz.underlying9, hz]
  have h := enc_fin ⟨d, hd⟩
  simp only at h
  rw [h]
theorem digL_cons (b u k : Nat) : (ByteArray.mk #[dgc (u / b ^ k % b)] ++ ByteArray.mk (digL b u k).toArray) = ByteArray.mk (digL b u (k + 1)).toArray := by
  rw [str_append, digL_succ]
  congr 1
  simp
set_option maxHeartbeats 1000000 in
theorem octal_ref (m : Int) (w : World) :
    Calls Tryz.prog 32 #[.int .i64 m] w fun e w' => e = .returned (.string ⟨(digL 8 (nat64 m % 4096) 4).toArray⟩) ∧ w = w' := by
  have hq : m % 4096 = ((nat64 m % 4096 : Nat) : Int) := (nat64_mod m 12 (by decide)).symm
  have hlt : nat64 m % 4096 < 4096 := Nat.mod_lt _ (by decide)
  have C := fun w => low_any m 12 (by omega) w
  have e12 : (2 : Int) ^ 12 = 4096 := by decide
  rw [e12, hq] at C
  generalize nat64 m % 4096 = q at *
  clear hq e12
  go_enter Tryz.func32, Tryz.ntmps32
  go_wp2_with (go_at_call 53; refine (C _).mono ?_; rintro e w' ⟨rfl, rfl⟩)
  clear C
  go_loop [3, 4, 5] (fun n s i => ∃ (k N : Nat) (S : ByteArray), k ≤ 4 ∧ n = .int .i64 N ∧ s = .string S ∧ i = .int .i64 k ∧ N < 4096 ∧ S.size ≤ k ∧ Hid (N = q / 8 ^ k ∧ S = ⟨(digL 8 q k).toArray⟩)) (fun _ _ i => 4 - (intOf i).toNat)
  case atStart => exact ⟨0, q, ⟨#[]⟩, by omega, rfl, rfl, rfl, hlt, Nat.le_refl _, Lib.hid ⟨by simp, rfl⟩⟩
  case round =>
    obtain ⟨k, N, S, hk, rfl, rfl, rfl, hN, hSz, H⟩ := hrel
    have h1s : ∀ x, (ByteArray.mk #[x]).size = 1 := fun _ => rfl
    by_cases hk4 : k < 4
    · have hch := rune_at (N % 8) (by omega) (48 + (N : Int) % 8) (by rw [dgc_lt _ (by omega)]; omega)
      have HS : Hid (ByteArray.mk #[dgc (N % 8)] ++ S = ⟨(digL 8 q (k + 1)).toArray⟩) := Lib.hid (by rw [H.out.2, H.out.1]; exact digL_cons 8 q k)
      have HD : Hid (N / 8 = q / 8 ^ (k + 1)) := Lib.hid (by rw [H.out.1, Nat.div_div_eq_div_mul, Nat.pow_succ])
      go_wp2
      go_round
      case rel => exact ⟨k + 1, N / 8, ByteArray.mk #[dgc (N % 8)] ++ S, by omega, by go_num, rfl, by go_num, by omega, by rw [ByteArray.size_append, h1s]; omega, Lib.hid ⟨HD.out, HS.out⟩⟩
      case measure => simp [intOf]; omega
    · obtain rfl : k = 4 := by omega
      go_wp2
      go_ret
      exact ⟨ret_str H.out.2, rfl⟩
/-- The reference's value of an octal text. -/
def rv (l : List UInt8) : Int := l.foldl (fun n c => 8 * n + (c.toNat : Int) - 48) 0
theorem rv_snoc (l : List UInt8) (c : UInt8) : rv (l ++ [c]) = 8 * rv l + (c.toNat : Int) - 48 := by unfold rv; rw [List.foldl_append, List.foldl_cons, List.foldl_nil]
theorem rv_bd0 (l : List UInt8) : ∀ n : Int, ∀ P : Int, 0 < P → -7 * (P - 1) ≤ n → n ≤ 30 * (P - 1) → -7 * (P * 8 ^ l.length - 1) ≤ l.foldl (fun n c => 8 * n + (c.toNat : Int) - 48) n ∧ l.foldl (fun n c => 8 * n + (c.toNat : Int) - 48) n ≤ 30 * (P * 8 ^ l.length - 1) := by
  induction l with
  | nil => intro n P hP h1 h2; simp; omega
  | cons c l ih =>
    intro n P hP h1 h2
    have hc := c.toNat_lt
    have := ih (8 * n + (c.toNat : Int) - 48) (P * 8) (by omega) (by omega) (by omega)
    rw [List.foldl_cons, List.length_cons, Int.pow_succ, Int.mul_comm (8 ^ l.length) 8, ← Int.mul_assoc]
    exact this
theorem rv_bd (l : List UInt8) (h : l.length ≤ 5) : -300000 ≤ rv l ∧ rv l ≤ 1000000 := by
  have h1 := rv_bd0 l 0 1 (by omega) (by omega) (by omega)
  have h2 : (8 : Int) ^ l.length ≤ 32768 := by
    have e : ((8 ^ l.length : Nat) : Int) = 8 ^ l.length := by simp
    have h3 : 8 ^ l.length ≤ 8 ^ 5 := Nat.pow_le_pow_right (by omega) h
    have h4 : (8 : Nat) ^ 5 = 32768 := by decide
    omega
  unfold rv
  omega
theorem rv_digL (u : Nat) : ∀ (L : Nat) (acc : Int), (digL 8 u L).foldl (fun n c => 8 * n + (c.toNat : Int) - 48) acc = acc * 8 ^ L + ((u % 8 ^ L : Nat) : Int)
  | 0, acc => by rw [digL_zero]; simp [Nat.mod_one]
  | L + 1, acc => by
    have hd : u / 8 ^ L % 8 < 8 := Nat.mod_lt _ (by decide)
    rw [digL_succ, List.foldl_cons, rv_digL u L, dgc_lt _ (by omega), Nat.mod_pow_succ, Int.pow_succ]
    have e : ((u % 8 ^ L + 8 ^ L * (u / 8 ^ L % 8) : Nat) : Int) = ((u % 8 ^ L : Nat) : Int) + 8 ^ L * ((u / 8 ^ L % 8 : Nat) : Int) := by
      rw [Int.natCast_add, Int.natCast_mul]; simp
    rw [e]
    generalize ((u % 8 ^ L : Nat) : Int) = x
    have e2 : 8 * acc + ((48 + u / 8 ^ L % 8 : Nat) : Int) - 48 = 8 * acc + ((u / 8 ^ L % 8 : Nat) : Int) := by omega
    rw [e2]
    generalize ((u / 8 ^ L % 8 : Nat) : Int) = y
    rw [Int.add_mul, Int.mul_assoc, Int.mul_comm 8 (acc * 8 ^ L), Int.mul_assoc, Int.mul_comm y]
    omega
theorem rv_num (m : Nat) (h : m < 4096) : rv (digL 8 m 4) = m := by
  unfold rv
  rw [rv_digL, Nat.mod_eq_of_lt h]; omega
theorem rv_neg (l : List UInt8) (h : rv l < 0) : numOf 8 4 l = none := by
  cases hn : numOf 8 4 l with
  | none => rfl
  | some m =>
    have h1 := numOf_lt (numOf_len hn) hn
    rw [← numOf_some hn, rv_num m h1] at h
    omega
theorem rv_eq (l : List UInt8) (h : digL 8 (nat64 (rv l) % 4096) 4 = l) : ∃ m : Nat, numOf 8 4 l = some m ∧ rv l = m := by
  have hlt : nat64 (rv l) % 4096 < 8 ^ 4 := Nat.mod_lt _ (by decide)
  generalize nat64 (rv l) % 4096 = m at h hlt
  subst h
  exact ⟨m, numOf_digL 8 4 m (by decide) (by decide) hlt, rv_num m hlt⟩
theorem rv_ne (l : List UInt8) (h : ¬ digL 8 (nat64 (rv l) % 4096) 4 = l) : numOf 8 4 l = none := by
  cases hn : numOf 8 4 l with
  | none => rfl
  | some m =>
    have h1 := numOf_lt (numOf_len hn) hn
    have h2 : m < 4096 := h1
    exfalso
    apply h
    have e : rv l = m := by rw [← numOf_some hn]; exact rv_num m h2
    rw [e, nat64_of m h2, Nat.mod_eq_of_lt h2]
    exact numOf_some hn
def OctRPost (l : List UInt8) (w : World) (e : Ending) (w' : World) : Prop :=
  (match numOf 8 4 l with
    | some n => e = .returned (.tuple #[.int .i64 n, .bool true])
    | none => e = .returned (.tuple #[.int .i64 0, .bool false])) ∧ w = w'
set_option maxHeartbeats 2000000 in
theorem parseOctal_ref (t : ByteArray) (ht : t.size ≤ 4000) (w : World) :
    Calls Tryz.prog 41 #[.string t] w (OctRPost t.data.toList w) := by
  have hlen : t.data.toList.length = t.size := Lib.size_eq t
  have HLEN := Lib.hid hlen
  clear hlen
  go_enter Tryz.func41, Tryz.ntmps41
  go_wp2
  go_loop [4, 5] (fun n i => ∃ (k : Nat) (N : Int), k ≤ 5 ∧ k ≤ t.size ∧ i = .int .i64 k ∧ n = .int .i64 N ∧ -300000 ≤ N ∧ N ≤ 1000000 ∧ Hid (N = rv (t.data.toList.take k))) (fun _ i => 5 - (intOf i).toNat)
  case atStart => exact ⟨0, 0, by omega, by omega, rfl, rfl, by omega, by omega, Lib.hid rfl⟩
  case round =>
    obtain ⟨k, N, hk5, hks, rfl, rfl, hN0, hN1, H⟩ := hrel
    by_cases hlt : k < t.size ∧ k < 5
    · obtain ⟨hlt, hk4⟩ := hlt
      have hst : rv (t.data.toList.take (k + 1)) = 8 * N + (t[k].toNat : Int) - 48 := by rw [take_snocB t k hlt, rv_snoc, ← H.out]
      have hbd := rv_bd (t.data.toList.take (k + 1)) (by rw [List.length_take]; omega)
      rw [hst] at hbd
      obtain ⟨hb0, hb1⟩ := hbd
      have HS := Lib.hid hst
      have hc := t[k].toNat_lt
      clear hst
      go_wp2
      go_round
      case rel => exact ⟨k + 1, 8 * N + (t[k].toNat : Int) - 48, by omega, by omega, by go_num, rfl, hb0, hb1, Lib.hid HS.out.symm⟩
      case measure => simp [intOf]; omega
    · by_cases hs4 : t.size = 4
      · obtain rfl : k = 4 := by omega
        have hN : N = rv t.data.toList := by rw [H.out, List.take_of_length_le (by have := HLEN.out; omega)]
        have HN := Lib.hid hN
        have hne : ((t.size : Int) != 4) = false := by rw [bne_eq_false_iff_eq]; omega
        have hk4' : ¬ 4 < t.size := by omega
        clear hlt hN hs4 H
        by_cases hneg : N < 0
        · have HR : Hid (numOf 8 4 t.data.toList = none) := Lib.hid (rv_neg _ (by have := HN.out; omega))
          go_wp2
          go_ret2
          unfold OctRPost
          rw [HR.out]
          exact ⟨rfl, rfl⟩
        · have C := fun w => octal_ref N w
          by_cases hq : digL 8 (nat64 N % 4096) 4 = t.data.toList
          · obtain ⟨m, hm, hNm⟩ := rv_eq t.data.toList (by rw [← HN.out]; exact hq)
            have HM := Lib.hid (And.intro hm (HN.out.trans hNm))
            have hqt : (digL 8 (nat64 N % 4096) 4 == t.toList) = true := by rw [ByteArray.toList_eq, hq]; simp
            clear hq hm hNm
            go_wp2_with (go_at_call 32; refine (C _).mono ?_; rintro e w1 ⟨rfl, rfl⟩)
            go_ret2
            unfold OctRPost
            rw [HM.out.1, HM.out.2]
            exact ⟨rfl, rfl⟩
          · have HR : Hid (numOf 8 4 t.data.toList = none) := Lib.hid (rv_ne _ (by rw [← HN.out]; exact hq))
            have hqt : (digL 8 (nat64 N % 4096) 4 == t.toList) = false := by rw [ByteArray.toList_eq]; simpa using hq
            clear hq
            go_wp2_with (go_at_call 32; refine (C _).mono ?_; rintro e w1 ⟨rfl, rfl⟩)
            go_ret2
            unfold OctRPost
            rw [HR.out]
            exact ⟨rfl, rfl⟩
      · have HR : Hid (numOf 8 4 t.data.toList = none) := Lib.hid (by
          cases h2 : numOf 8 4 t.data.toList with
          | none => rfl
          | some n => exact absurd (HLEN.out.symm.trans (numOf_len h2)) hs4)
        have hne : ((t.size : Int) != 4) = true := by rw [bne_iff_ne]; omega
        have hgt : t.size ≤ k ∨ 5 ≤ k ∧ k < t.size := by omega
        clear hlt hs4
        rcases hgt with hgt | ⟨hgt, hgt2⟩
        · go_wp2
          go_ret2
          unfold OctRPost
          rw [HR.out]
          exact ⟨rfl, rfl⟩
        · go_wp2
          go_ret2
          unfold OctRPost
          rw [HR.out]
          exact ⟨rfl, rfl⟩
end Go.Proofs.YtmjfbpiodamamaaGreatDoor
namespace Go.Proofs.YtmjfbpiodamamaaGreatDoor
open Go.RowKit Go.Sort
namespace bitsOctalw
end bitsOctalw
end Go.Proofs.YtmjfbpiodamamaaGreatDoor
namespace Go.Proofs.YtmjfbpiodamamaaGreatDoor.bitsTextsw
open Go.RowKit Go.Sort
/-- The digits above. -/
def dd (u : Nat) : List UInt8 := if u = 0 then [] else Lib.decDigits u
theorem ofNat_dgc (d : Nat) (hd : d < 10) : UInt8.ofNat (48 + d) = dgc d := by unfold dgc; rw [if_pos hd]
theorem dd_step (u : Nat) (h : 0 < u) : dd u = dd (u / 10) ++ [dgc (u % 10)] := by
  unfold dd
  rw [if_neg (by omega), ← ofNat_dgc _ (by omega)]
  by_cases hs : u < 10
  · rw [dec_small u hs, if_pos (by omega), Nat.mod_eq_of_lt hs]; rfl
  · rw [dec_big u hs, if_neg (by omega)]
theorem dd_first (u : Nat) : Lib.decDigits u = dd (u / 10) ++ [dgc (u % 10)] := by
  rw [← ofNat_dgc _ (by omega)]
  by_cases hs : u < 10
  · rw [dec_small u hs]; unfold dd; rw [if_pos (by omega), Nat.mod_eq_of_lt hs]; rfl
  · rw [dec_big u hs]; unfold dd; rw [if_neg (by omega)]
theorem rune_dec (d : Nat) (hd : d < 10) (z : Int) (hz : z = 48 + (d : Int)) (w : World) : (convert 21 9 (.int .i32 z)).run Tryz.prog w = .ok (.string ⟨#[dgc d]⟩) w :=
  rune_at d (by omega) z (by rw [dgc_lt d hd]; omega) w
theorem size_bd (u k U : Nat) (hu : 0 < u) (h : u * 10 ^ k ≤ U) (hU : U < 18446744073709551616) : k ≤ 19 := by
  rcases Nat.lt_or_ge 19 k with hk | hk
  · have h1 : 10 ^ 20 ≤ 10 ^ k := Nat.pow_le_pow_right (by decide) hk
    have h2 : 10 ^ k ≤ u * 10 ^ k := Nat.le_mul_of_pos_left _ hu
    have e : (10 : Nat) ^ 20 = 100000000000000000000 := by decide
    omega
  · exact hk
set_option maxHeartbeats 2000000 in
theorem text_ref (n : Int) (h0 : -9223372036854775808 ≤ n) (h1 : n ≤ 9223372036854775807) (w : World) :
    Calls Tryz.prog 31 #[.int .i64 n] w fun e w' => e = .returned (.string ⟨(Lib.itoa n).toArray⟩) ∧ w = w' := by
  have h1s : ∀ x, (ByteArray.mk #[x]).size = 1 := fun _ => rfl
  by_cases hn : n < 0
  · obtain ⟨U, rfl⟩ : ∃ U : Nat, n = -(U : Int) := ⟨n.natAbs, by omega⟩
    have hU : U < 18446744073709551616 ∧ 1 ≤ U := by omega
    obtain ⟨hU, hU1⟩ := hU
    have hwr : IntKind.u64.wrap (-IntKind.u64.wrap (-(U : Int))) = (U : Int) := by rw [IntKind.wrap_u64, IntKind.wrap_u64]; omega
    have hit : Lib.itoa (-(U : Int)) = 45 :: Lib.decDigits U := Lib.itoa_neg U hU1
    rw [hit]
    have hch := rune_dec (U % 10) (by omega) (48 + (U : Int) % 10) (by omega)
    clear hit h0 h1
    go_enter Tryz.func31, Tryz.ntmps31
    go_wp2
    clear hwr hch
    go_loop [3, 4] (fun x s => ∃ (u : Nat) (S : ByteArray), x = .int .u64 u ∧ s = .string S ∧ u ≤ U ∧ S.size ≤ 20 ∧ Hid (Lib.decDigits U = dd u ++ S.data.toList ∧ u * 10 ^ S.size ≤ U)) (fun x _ => (intOf x).toNat)
    case atStart => exact ⟨U / 10, ⟨#[dgc (U % 10)]⟩, by go_num, rfl, by omega, by rw [h1s]; omega, Lib.hid ⟨dd_first U, by rw [h1s]; omega⟩⟩
    case round =>
      obtain ⟨u, S, rfl, rfl, hu, hSz, H⟩ := hrel
      by_cases hu0 : 0 < u
      · have hbd : S.size ≤ 19 := size_bd u S.size U hu0 H.out.2 hU
        have hch := rune_dec (u % 10) (by omega) (48 + (u : Int) % 10) (by omega)
        have HS : Hid (Lib.decDigits U = dd (u / 10) ++ (ByteArray.mk #[dgc (u % 10)] ++ S).data.toList ∧ u / 10 * 10 ^ (ByteArray.mk #[dgc (u % 10)] ++ S).size ≤ U) := Lib.hid (by
          constructor
          · rw [H.out.1, dd_step u hu0, ByteArray.data_append]; simp
          · rw [ByteArray.size_append, h1s, Nat.pow_add, Nat.pow_one, ← Nat.mul_assoc]
            exact Nat.le_trans (Nat.mul_le_mul_right _ (Nat.div_mul_le_self u 10)) H.out.2)
        go_wp2
        go_round
        case rel => exact ⟨u / 10, ByteArray.mk #[dgc (u % 10)] ++ S, by go_num, rfl, by omega, by rw [ByteArray.size_append, h1s]; omega, HS⟩
        case measure => simp [intOf]; omega
      · obtain rfl : u = 0 := by omega
        have HS : Hid (S = ⟨(Lib.decDigits U).toArray⟩) := Lib.hid (by rw [H.out.1]; apply ByteArray.ext; simp [dd])
        go_wp2
        go_ret
        refine ⟨ret_str ?_, rfl⟩
        rw [HS.out]
        exact (str_append #[45] (Lib.decDigits U).toArray).trans (by congr 1; simp)
  · obtain ⟨U, rfl⟩ : ∃ U : Nat, n = U := ⟨n.toNat, by omega⟩
    have hU : U < 18446744073709551616 := by omega
    have hit : Lib.itoa (U : Int) = Lib.decDigits U := Lib.itoa_nonneg U
    rw [hit]
    have hch := rune_dec (U % 10) (by omega) (48 + (U : Int) % 10) (by omega)
    clear hit h0 hn
    go_enter Tryz.func31, Tryz.ntmps31
    go_wp2
    clear hch
    go_loop [3, 4] (fun x s => ∃ (u : Nat) (S : ByteArray), x = .int .u64 u ∧ s = .string S ∧ u ≤ U ∧ S.size ≤ 20 ∧ Hid (Lib.decDigits U = dd u ++ S.data.toList ∧ u * 10 ^ S.size ≤ U)) (fun x _ => (intOf x).toNat)
    case atStart => exact ⟨U / 10, ⟨#[dgc (U % 10)]⟩, by go_num, rfl, by omega, by rw [h1s]; omega, Lib.hid ⟨dd_first U, by rw [h1s]; omega⟩⟩
    case round =>
      obtain ⟨u, S, rfl, rfl, hu, hSz, H⟩ := hrel
      by_cases hu0 : 0 < u
      · have hbd : S.size ≤ 19 := size_bd u S.size U hu0 H.out.2 hU
        have hch := rune_dec (u % 10) (by omega) (48 + (u : Int) % 10) (by omega)
        have HS : Hid (Lib.decDigits U = dd (u / 10) ++ (ByteArray.mk #[dgc (u % 10)] ++ S).data.toList ∧ u / 10 * 10 ^ (ByteArray.mk #[dgc (u % 10)] ++ S).size ≤ U) := Lib.hid (by
          constructor
          · rw [H.out.1, dd_step u hu0, ByteArray.data_append]; simp
          · rw [ByteArray.size_append, h1s, Nat.pow_add, Nat.pow_one, ← Nat.mul_assoc]
            exact Nat.le_trans (Nat.mul_le_mul_right _ (Nat.div_mul_le_self u 10)) H.out.2)
        go_wp2
        go_round
        case rel => exact ⟨u / 10, ByteArray.mk #[dgc (u % 10)] ++ S, by go_num, rfl, by omega, by rw [ByteArray.size_append, h1s]; omega, HS⟩
        case measure => simp [intOf]; omega
      · obtain rfl : u = 0 := by omega
        have HS : Hid (S = ⟨(Lib.decDigits U).toArray⟩) := Lib.hid (by rw [H.out.1]; apply ByteArray.ext; simp [dd])
        go_wp2
        go_ret
        exact ⟨ret_str HS.out, rfl⟩
/-- The program's Int: the number and OK, or 0 and EFORM. -/
def IntPost (s : ByteArray) (w : World) (e : Ending) (w' : World) : Prop :=
  (match numI s.data.toList with
    | some n => e = .returned (.tuple #[.int .i64 n, .int .i64 0])
    | none => e = .returned (.tuple #[.int .i64 0, .int .i64 2])) ∧ Below w.heap.size w w'
theorem bytesWorld_or (w w' : World) (h : w' = w ∨ ∃ t, w' = Lib.bytesWorld w 5 t) : Below w.heap.size w w' := by
  rcases h with rfl | ⟨t, rfl⟩
  · exact Below.refl _ _
  · exact Lib.bytesWorld_below w _ t
def AtoiPost (s : ByteArray) (w : World) (e : Ending) (w' : World) : Prop :=
  ((∃ v, Lib.atoiAll s.data.toList = .ok v ∧ e = .returned (.tuple #[.int .i64 v, .nilIface])) ∨ ((∀ v, Lib.atoiAll s.data.toList ≠ .ok v) ∧ ∃ x p, e = .returned (.tuple #[.int .i64 x, .iface 159 p]))) ∧ Below w.heap.size w w'
theorem atoi_any (s : ByteArray) (hs : s.size ≤ 4000) (w : World) (h : LaidE w) : Calls Tryz.prog 116 #[.string s] w (AtoiPost s w) := by
  cases hr : Lib.atoiAll s.data.toList with
  | ok v => exact (Any.strconv_Atoi_ok Tryz.laysC172 s (by omega) v hr w).mono fun e w' he => ⟨Or.inl ⟨v, hr, he.1⟩, bytesWorld_or w w' he.2⟩
  | range =>
    obtain ⟨tp, p, hv⟩ := h.rng
    exact (Any.strconv_Atoi_range_var Tryz.laysC172 s (by omega) hr tp p w hv).mono fun e w' ⟨N, he, _, _, hb⟩ => ⟨Or.inr ⟨fun v => by rw [hr]; simp, _, _, he⟩, hb⟩
  | _ =>
    obtain ⟨tp, p, hv⟩ := h.syn
    exact (Any.strconv_Atoi_syntax_var Tryz.laysC172 s (by omega) hr tp p w hv).mono fun e w' ⟨N, he, _, _, hb⟩ => ⟨Or.inr ⟨fun v => by rw [hr]; simp, _, _, he⟩, hb⟩
theorem atoi_bd (l : List UInt8) (v : Int) (h : Lib.atoiAll l = .ok v) : -9223372036854775808 ≤ v ∧ v ≤ 9223372036854775807 := Lib.atoiAll_bounds h
set_option maxHeartbeats 2000000 in
theorem int_any (s : ByteArray) (hs : s.size ≤ 4000) (w : World) (h : LaidE w) : Calls Tryz.prog 98 #[.string s] w (IntPost s w) := by
  have H := atoi_any s hs w h
  have HE := Lib.hid h
  clear h
  by_cases hok : ∃ v, Lib.atoiAll s.data.toList = .ok v
  · obtain ⟨v, hv⟩ := hok
    have H2 : Calls Tryz.prog 116 #[.string s] w fun e w' => e = .returned (.tuple #[.int .i64 v, .nilIface]) ∧ Below w.heap.size w w' := H.mono fun e w' he => by
      obtain ⟨h1 | h1, hb⟩ := he
      · obtain ⟨v', h2, h3⟩ := h1
        rw [hv] at h2
        cases h2
        exact ⟨h3, hb⟩
      · exact absurd hv (h1.1 v)
    obtain ⟨hv0, hv1⟩ := atoi_bd _ v hv
    have HV := Lib.hid hv
    clear H hv
    by_cases hq : Lib.itoa v = s.data.toList
    · have HN : Hid (numI s.data.toList = some v) := Lib.hid (by rw [← hq]; exact numI_itoa v hv0 hv1)
      have hqt : (Lib.itoa v == s.toList) = true := by rw [ByteArray.toList_eq, hq]; simp
      clear hq
      go_enter Tryz.func98, Tryz.ntmps98
      go_wp2_with (go_at_call 116; refine H2.mono ?_; rintro e w1 ⟨rfl, hb1⟩; refine Hid.out ?_)
      have A1 := text_any v hv0 hv1 w1 (HE.out.on hb1).laid
      have HB1 := Lib.hid hb1
      clear hb1 H2
      refine Lib.hid ?_
      go_wp2_with (go_at_call 49; refine A1.mono ?_; rintro e w2 ⟨rfl, hb2⟩; have HB2 := Lib.hid hb2; clear hb2)
      go_ret2
      unfold IntPost
      rw [HN.out]
      exact ⟨rfl, fin HB1.out HB2.out⟩
    · have HN : Hid (numI s.data.toList = none) := Lib.hid (by
        cases hn : numI s.data.toList with
        | none => rfl
        | some n =>
          obtain ⟨e1, e2, e3⟩ := numI_some hn
          have := atoi_itoa n e2 e3
          rw [e1, HV.out] at this
          cases this
          exact absurd e1 hq)
      have hqt : (Lib.itoa v == s.toList) = false := by rw [ByteArray.toList_eq]; simpa using hq
      clear hq
      go_enter Tryz.func98, Tryz.ntmps98
      go_wp2_with (go_at_call 116; refine H2.mono ?_; rintro e w1 ⟨rfl, hb1⟩; refine Hid.out ?_)
      have A1 := text_any v hv0 hv1 w1 (HE.out.on hb1).laid
      have HB1 := Lib.hid hb1
      clear hb1 H2
      refine Lib.hid ?_
      go_wp2_with (go_at_call 49; refine A1.mono ?_; rintro e w2 ⟨rfl, hb2⟩; have HB2 := Lib.hid hb2; clear hb2)
      go_ret2
      unfold IntPost
      rw [HN.out]
      exact ⟨rfl, fin HB1.out HB2.out⟩
  · have H2 : Calls Tryz.prog 116 #[.string s] w fun e w' => (∃ x p, e = .returned (.tuple #[.int .i64 x, .iface 159 p])) ∧ Below w.heap.size w w' := H.mono fun e w' he => by
      obtain ⟨h1 | h1, hb⟩ := he
      · obtain ⟨v', h2, h3⟩ := h1
        exact absurd ⟨v', h2⟩ hok
      · exact ⟨h1.2, hb⟩
    have HN : Hid (numI s.data.toList = none) := Lib.hid (by
      cases hn : numI s.data.toList with
      | none => rfl
      | some n =>
        obtain ⟨e1, e2, e3⟩ := numI_some hn
        have := atoi_itoa n e2 e3
        rw [e1] at this
        exact absurd ⟨n, this⟩ hok)
    clear H hok
    go_enter Tryz.func98, Tryz.ntmps98
    go_wp2_with (go_at_call 116; refine H2.mono ?_; rintro e w1 ⟨⟨x, p, rfl⟩, hb1⟩; have HB1 := Lib.hid hb1; clear hb1)
    go_ret2
    unfold IntPost
    rw [HN.out]
    exact ⟨rfl, HB1.out⟩
def IntRPost (l : List UInt8) (w : World) (e : Ending) (w' : World) : Prop :=
  (match numI l with
    | some n => e = .returned (.tuple #[.int .i64 n, .bool true])
    | none => e = .returned (.tuple #[.int .i64 0, .bool false])) ∧ w = w'
set_option maxHeartbeats 4000000 in
theorem int_ref (s : ByteArray) (hs : s.size ≤ 4000) (w : World) : Calls Tryz.prog 39 #[.string s] w (IntRPost s.data.toList w) := by
  have hlen : s.data.toList.length = s.size := Lib.size_eq s
  have HLEN := Lib.hid hlen
  clear hlen
  by_cases hbig : 20 < s.size
  · have HN : Hid (numI s.data.toList = none) := Lib.hid (by
      cases hn : numI s.data.toList with
      | none => rfl
      | some n => exact absurd (numI_len hn) (by rw [HLEN.out]; omega))
    by_cases h45 : s[0].toNat = 45
    · have hb : ((s[0].toNat : Int) == 45) = true := by rw [beq_iff_eq]; omega
      clear h45
      go_enter Tryz.func39, Tryz.ntmps39
      go_wp2
      go_ret2
      unfold IntRPost
      rw [HN.out]
      exact ⟨rfl, rfl⟩
    · have hb : ((s[0].toNat : Int) == 45) = false := by rw [beq_eq_false_iff_ne]; omega
      clear h45
      go_enter Tryz.func39, Tryz.ntmps39
      go_wp2
      go_ret2
      unfold IntRPost
      rw [HN.out]
      exact ⟨rfl, rfl⟩
  · obtain ⟨r, hr⟩ : ∃ r, r = rI s.data.toList := ⟨_, rfl⟩
    obtain ⟨hr0, hr1⟩ := rI_bd s.data.toList
    rw [← hr] at hr0 hr1
    have HRR := Lib.hid hr.symm
    have hsz : s.size ≤ 20 := by omega
    clear hbig
    by_cases h0 : s.size = 0
    · have HR : Hid (IntKind.i64.wrap (uval s.data.toList : Int) = r) := Lib.hid (by
        rw [hr]; unfold rI
        have : s.data.toList = [] := List.eq_nil_of_length_eq_zero (by rw [HLEN.out, h0])
        rw [this, if_neg (by simp)])
      have hz : s.size ≤ 0 := by omega
      clear hr h0
      go_enter Tryz.func39, Tryz.ntmps39
      go_wp2
      go_loop [4, 6] (fun u i => ∃ (k U : Nat), k ≤ s.size ∧ i = .int .i64 k ∧ u = .int .u64 U ∧ U < 18446744073709551616 ∧ Hid (U = uval (s.data.toList.take k))) (fun _ i => s.size - (intOf i).toNat)
      case atStart => exact ⟨0, 0, by omega, rfl, rfl, by omega, Lib.hid rfl⟩
      case round =>
        obtain ⟨k, U, hk, rfl, rfl, hU, H⟩ := hrel
        by_cases hlt : k < s.size
        · have hc := s[k].toNat_lt
          have hst : uval (s.data.toList.take (k + 1)) = ustep U s[k] := by rw [take_snocB s k hlt, uval_snoc, ← H.out]
          by_cases h45 : s[k].toNat = 45
          · have HS : Hid (uval (s.data.toList.take (k + 1)) = U) := Lib.hid (by rw [hst]; unfold ustep; rw [if_pos h45])
            have hb : ((s[k].toNat : Int) != 45) = false := by rw [bne_eq_false_iff_eq]; omega
            clear hst h45
            go_wp2
            go_round
            case rel => exact ⟨k + 1, U, by omega, by go_num, rfl, hU, Lib.hid HS.out.symm⟩
            case measure => simp [intOf]; omega
          · have HS : Hid (((uval (s.data.toList.take (k + 1)) : Nat) : Int) = IntKind.u64.wrap (IntKind.u64.wrap (IntKind.u64.wrap (10 * (U : Int)) + s[k].toNat) - 48)) := Lib.hid (by
              rw [hst]; unfold ustep; rw [if_neg h45, Int.toNat_of_nonneg (wrap_u64_nonneg _).1])
            have hb : ((s[k].toNat : Int) != 45) = true := by rw [bne_iff_ne]; omega
            clear hst h45
            go_wp2
            go_round
            case rel => exact ⟨k + 1, uval (s.data.toList.take (k + 1)), by omega, by go_num, by rw [HS.out] <;> (congr 1; simp only [IntKind.wrap_u64]; omega), uval_lt _, Lib.hid rfl⟩
            case measure => simp [intOf]; omega
        · obtain rfl : k = s.size := by omega
          have HU : Hid (U = uval s.data.toList) := Lib.hid (by rw [H.out, List.take_of_length_le (by rw [HLEN.out]; omega)])
          clear H hlt
          have hwr : IntKind.i64.wrap (U : Int) = r := by rw [← HR.out, HU.out]
          have T := fun w => text_ref r hr0 hr1 w
          by_cases hq : Lib.itoa r = s.data.toList
          · have HN : Hid (numI s.data.toList = some r) := Lib.hid (by unfold numI; rw [HRR.out, if_pos hq])
            have hqt : (Lib.itoa r == s.toList) = true := by rw [ByteArray.toList_eq, hq]; simp
            clear hq
            go_wp2_with (go_at_call 31; refine (T _).mono ?_; rintro e w2 ⟨rfl, rfl⟩)
            go_ret2
            unfold IntRPost
            rw [HN.out]
            exact ⟨rfl, rfl⟩
          · have HN : Hid (numI s.data.toList = none) := Lib.hid (by unfold numI; rw [HRR.out, if_neg hq])
            have hqt : (Lib.itoa r == s.toList) = false := by rw [ByteArray.toList_eq]; simpa using hq
            clear hq
            go_wp2_with (go_at_call 31; refine (T _).mono ?_; rintro e w2 ⟨rfl, rfl⟩)
            go_ret2
            unfold IntRPost
            rw [HN.out]
            exact ⟨rfl, rfl⟩
    · have hp : 0 < s.size := by omega
      have hhead : s.data.toList.head? = some s[0] := by
        rw [List.head?_eq_getElem?, List.getElem?_eq_getElem (by rw [HLEN.out]; omega)]
        rfl
      by_cases h45 : s[0].toNat = 45
      · have HR : Hid (IntKind.i64.wrap (IntKind.u64.wrap (-(uval s.data.toList : Int))) = r) := Lib.hid (by
          rw [hr]; unfold rI
          have e : s[0] = 45 := UInt8.toNat_inj.1 h45
          rw [hhead, e, if_pos rfl])
        have hb : ((s[0].toNat : Int) == 45) = true := by rw [beq_iff_eq]; omega
        clear hr h0 h45 hhead
        go_enter Tryz.func39, Tryz.ntmps39
        go_wp2
        go_loop [4, 6] (fun u i => ∃ (k U : Nat), k ≤ s.size ∧ i = .int .i64 k ∧ u = .int .u64 U ∧ U < 18446744073709551616 ∧ Hid (U = uval (s.data.toList.take k))) (fun _ i => s.size - (intOf i).toNat)
        case atStart => exact ⟨0, 0, by omega, rfl, rfl, by omega, Lib.hid rfl⟩
        case round =>
          obtain ⟨k, U, hk, rfl, rfl, hU, H⟩ := hrel
          by_cases hlt : k < s.size
          · have hc := s[k].toNat_lt
            have hst : uval (s.data.toList.take (k + 1)) = ustep U s[k] := by rw [take_snocB s k hlt, uval_snoc, ← H.out]
            by_cases h45 : s[k].toNat = 45
            · have HS : Hid (uval (s.data.toList.take (k + 1)) = U) := Lib.hid (by rw [hst]; unfold ustep; rw [if_pos h45])
              have hb : ((s[k].toNat : Int) != 45) = false := by rw [bne_eq_false_iff_eq]; omega
              clear hst h45
              go_wp2
              go_round
              case rel => exact ⟨k + 1, U, by omega, by go_num, rfl, hU, Lib.hid HS.out.symm⟩
              case measure => simp [intOf]; omega
            · have HS : Hid (((uval (s.data.toList.take (k + 1)) : Nat) : Int) = IntKind.u64.wrap (IntKind.u64.wrap (IntKind.u64.wrap (10 * (U : Int)) + s[k].toNat) - 48)) := Lib.hid (by
                rw [hst]; unfold ustep; rw [if_neg h45, Int.toNat_of_nonneg (wrap_u64_nonneg _).1])
              have hb : ((s[k].toNat : Int) != 45) = true := by rw [bne_iff_ne]; omega
              clear hst h45
              go_wp2
              go_round
              case rel => exact ⟨k + 1, uval (s.data.toList.take (k + 1)), by omega, by go_num, by rw [HS.out] <;> (congr 1; simp only [IntKind.wrap_u64]; omega), uval_lt _, Lib.hid rfl⟩
              case measure => simp [intOf]; omega
          · obtain rfl : k = s.size := by omega
            have HU : Hid (U = uval s.data.toList) := Lib.hid (by rw [H.out, List.take_of_length_le (by rw [HLEN.out]; omega)])
            clear H hlt
            have hwr : IntKind.i64.wrap (IntKind.u64.wrap (-(U : Int))) = r := by rw [← HR.out, HU.out]
            have T := fun w => text_ref r hr0 hr1 w
            by_cases hq : Lib.itoa r = s.data.toList
            · have HN : Hid (numI s.data.toList = some r) := Lib.hid (by unfold numI; rw [HRR.out, if_pos hq])
              have hqt : (Lib.itoa r == s.toList) = true := by rw [ByteArray.toList_eq, hq]; simp
              clear hq
              go_wp2_with (go_at_call 31; refine (T _).mono ?_; rintro e w2 ⟨rfl, rfl⟩)
              go_ret2
              unfold IntRPost
              rw [HN.out]
              exact ⟨rfl, rfl⟩
            · have HN : Hid (numI s.data.toList = none) := Lib.hid (by unfold numI; rw [HRR.out, if_neg hq])
              have hqt : (Lib.itoa r == s.toList) = false := by rw [ByteArray.toList_eq]; simpa using hq
              clear hq
              go_wp2_with (go_at_call 31; refine (T _).mono ?_; rintro e w2 ⟨rfl, rfl⟩)
              go_ret2
              unfold IntRPost
              rw [HN.out]
              exact ⟨rfl, rfl⟩
      · have HR : Hid (IntKind.i64.wrap (uval s.data.toList : Int) = r) := Lib.hid (by
          rw [hr]; unfold rI
          have e : ¬ s[0] = 45 := fun h => h45 (by rw [h]; rfl)
          rw [hhead, if_neg (by simpa using e)])
        have hb : ((s[0].toNat : Int) == 45) = false := by rw [beq_eq_false_iff_ne]; omega
        clear hr h0 h45 hhead
        go_enter Tryz.func39, Tryz.ntmps39
        go_wp2
        go_loop [4, 6] (fun u i => ∃ (k U : Nat), k ≤ s.size ∧ i = .int .i64 k ∧ u = .int .u64 U ∧ U < 18446744073709551616 ∧ Hid (U = uval (s.data.toList.take k))) (fun _ i => s.size - (intOf i).toNat)
        case atStart => exact ⟨0, 0, by omega, rfl, rfl, by omega, Lib.hid rfl⟩
        case round =>
          obtain ⟨k, U, hk, rfl, rfl, hU, H⟩ := hrel
          by_cases hlt : k < s.size
          · have hc := s[k].toNat_lt
            have hst : uval (s.data.toList.take (k + 1)) = ustep U s[k] := by rw [take_snocB s k hlt, uval_snoc, ← H.out]
            by_cases h45 : s[k].toNat = 45
            · have HS : Hid (uval (s.data.toList.take (k + 1)) = U) := Lib.hid (by rw [hst]; unfold ustep; rw [if_pos h45])
              have hb : ((s[k].toNat : Int) != 45) = false := by rw [bne_eq_false_iff_eq]; omega
              clear hst h45
              go_wp2
              go_round
              case rel => exact ⟨k + 1, U, by omega, by go_num, rfl, hU, Lib.hid HS.out.symm⟩
              case measure => simp [intOf]; omega
            · have HS : Hid (((uval (s.data.toList.take (k + 1)) : Nat) : Int) = IntKind.u64.wrap (IntKind.u64.wrap (IntKind.u64.wrap (10 * (U : Int)) + s[k].toNat) - 48)) := Lib.hid (by
                rw [hst]; unfold ustep; rw [if_neg h45, Int.toNat_of_nonneg (wrap_u64_nonneg _).1])
              have hb : ((s[k].toNat : Int) != 45) = true := by rw [bne_iff_ne]; omega
              clear hst h45
              go_wp2
              go_round
              case rel => exact ⟨k + 1, uval (s.data.toList.take (k + 1)), by omega, by go_num, by rw [HS.out] <;> (congr 1; simp only [IntKind.wrap_u64]; omega), uval_lt _, Lib.hid rfl⟩
              case measure => simp [intOf]; omega
          · obtain rfl : k = s.size := by omega
            have HU : Hid (U = uval s.data.toList) := Lib.hid (by rw [H.out, List.take_of_length_le (by rw [HLEN.out]; omega)])
            clear H hlt
            have hwr : IntKind.i64.wrap (U : Int) = r := by rw [← HR.out, HU.out]
            have T := fun w => text_ref r hr0 hr1 w
            by_cases hq : Lib.itoa r = s.data.toList
            · have HN : Hid (numI s.data.toList = some r) := Lib.hid (by unfold numI; rw [HRR.out, if_pos hq])
              have hqt : (Lib.itoa r == s.toList) = true := by rw [ByteArray.toList_eq, hq]; simp
              clear hq
              go_wp2_with (go_at_call 31; refine (T _).mono ?_; rintro e w2 ⟨rfl, rfl⟩)
              go_ret2
              unfold IntRPost
              rw [HN.out]
              exact ⟨rfl, rfl⟩
            · have HN : Hid (numI s.data.toList = none) := Lib.hid (by unfold numI; rw [HRR.out, if_neg hq])
              have hqt : (Lib.itoa r == s.toList) = false := by rw [ByteArray.toList_eq]; simpa using hq
              clear hq
              go_wp2_with (go_at_call 31; refine (T _).mono ?_; rintro e w2 ⟨rfl, rfl⟩)
              go_ret2
              unfold IntRPost
              rw [HN.out]
              exact ⟨rfl, rfl⟩
end Go.Proofs.YtmjfbpiodamamaaGreatDoor.bitsTextsw
