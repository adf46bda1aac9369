/-
  The program's Int, the reference's Text and Int, and the walk of BitsTexts: for every int and every text it returns true; of what was there nothing has turned. Condition: LaidE.
-/
import Derived.Test.YtgoekfonbpffdaaDoorOctalWalk
import Derived.Test.YtgoekfonbpffdaaDoorTextsMath
namespace Go.Proofs.YtgoekfonbpffdaaDoor.bitsTextsw
open Go.RowKit Go.Sort
/-- The digits above. -/
def dd (u : Nat) : List UInt8 := if u = 0 then [] else Lib.decDigits u
theorem ofNat_dgc (d : Nat) (hd : d < 10) : UInt8.ofNat (48 + d) = dgc d := by unfold dgc; rw [if_pos hd]
theorem dd_step (u : Nat) (h : 0 < u) : dd u = dd (u / 10) ++ [dgc (u % 10)] := by
  unfold dd
  rw [if_neg (by omega), ← ofNat_dgc _ (by omega)]
  by_cases hs : u < 10
  · rw [dec_small u hs, if_pos (by omega), Nat.mod_eq_of_lt hs]; rfl
  · rw [dec_big u hs, if_neg (by omega)]
theorem dd_first (u : Nat) : Lib.decDigits u = dd (u / 10) ++ [dgc (u % 10)] := by
  rw [← ofNat_dgc _ (by omega)]
  by_cases hs : u < 10
  · rw [dec_small u hs]; unfold dd; rw [if_pos (by omega), Nat.mod_eq_of_lt hs]; rfl
  · rw [dec_big u hs]; unfold dd; rw [if_neg (by omega)]
theorem rune_dec (d : Nat) (hd : d < 10) (z : Int) (hz : z = 48 + (d : Int)) (w : World) : (convert 21 9 (.int .i32 z)).run Tryd.prog w = .ok (.string ⟨#[dgc d]⟩) w :=
  rune_at d (by omega) z (by rw [dgc_lt d hd]; omega) w
theorem size_bd (u k U : Nat) (hu : 0 < u) (h : u * 10 ^ k ≤ U) (hU : U < 18446744073709551616) : k ≤ 19 := by
  rcases Nat.lt_or_ge 19 k with hk | hk
  · have h1 : 10 ^ 20 ≤ 10 ^ k := Nat.pow_le_pow_right (by decide) hk
    have h2 : 10 ^ k ≤ u * 10 ^ k := Nat.le_mul_of_pos_left _ hu
    have e : (10 : Nat) ^ 20 = 100000000000000000000 := by decide
    omega
  · exact hk
set_option maxHeartbeats 2000000 in
theorem text_ref (n : Int) (h0 : -9223372036854775808 ≤ n) (h1 : n ≤ 9223372036854775807) (w : World) :
    Calls Tryd.prog 40 #[.int .i64 n] w fun e w' => e = .returned (.string ⟨(Lib.itoa n).toArray⟩) ∧ w = w' := by
  have h1s : ∀ x, (ByteArray.mk #[x]).size = 1 := fun _ => rfl
  by_cases hn : n < 0
  · obtain ⟨U, rfl⟩ : ∃ U : Nat, n = -(U : Int) := ⟨n.natAbs, by omega⟩
    have hU : U < 18446744073709551616 ∧ 1 ≤ U := by omega
    obtain ⟨hU, hU1⟩ := hU
    have hwr : IntKind.u64.wrap (-IntKind.u64.wrap (-(U : Int))) = (U : Int) := by rw [IntKind.wrap_u64, IntKind.wrap_u64]; omega
    have hit : Lib.itoa (-(U : Int)) = 45 :: Lib.decDigits U := Lib.itoa_neg U hU1
    rw [hit]
    have hch := rune_dec (U % 10) (by omega) (48 + (U : Int) % 10) (by omega)
    clear hit h0 h1
    go_enter Tryd.func40, Tryd.ntmps40
    go_wp2
    clear hwr hch
    go_loop [3, 4] (fun x s => ∃ (u : Nat) (S : ByteArray), x = .int .u64 u ∧ s = .string S ∧ u ≤ U ∧ S.size ≤ 20 ∧ Hid (Lib.decDigits U = dd u ++ S.data.toList ∧ u * 10 ^ S.size ≤ U)) (fun x _ => (intOf x).toNat)
    case atStart => exact ⟨U / 10, ⟨#[dgc (U % 10)]⟩, by go_num, rfl, by omega, by rw [h1s]; omega, Lib.hid ⟨dd_first U, by rw [h1s]; omega⟩⟩
    case round =>
      obtain ⟨u, S, rfl, rfl, hu, hSz, H⟩ := hrel
      by_cases hu0 : 0 < u
      · have hbd : S.size ≤ 19 := size_bd u S.size U hu0 H.out.2 hU
        have hch := rune_dec (u % 10) (by omega) (48 + (u : Int) % 10) (by omega)
        have HS : Hid (Lib.decDigits U = dd (u / 10) ++ (ByteArray.mk #[dgc (u % 10)] ++ S).data.toList ∧ u / 10 * 10 ^ (ByteArray.mk #[dgc (u % 10)] ++ S).size ≤ U) := Lib.hid (by
          constructor
          · rw [H.out.1, dd_step u hu0, ByteArray.data_append]; simp
          · rw [ByteArray.size_append, h1s, Nat.pow_add, Nat.pow_one, ← Nat.mul_assoc]
            exact Nat.le_trans (Nat.mul_le_mul_right _ (Nat.div_mul_le_self u 10)) H.out.2)
        go_wp2
        go_round
        case rel => exact ⟨u / 10, ByteArray.mk #[dgc (u % 10)] ++ S, by go_num, rfl, by omega, by rw [ByteArray.size_append, h1s]; omega, HS⟩
        case measure => simp [intOf]; omega
      · obtain rfl : u = 0 := by omega
        have HS : Hid (S = ⟨(Lib.decDigits U).toArray⟩) := Lib.hid (by rw [H.out.1]; apply ByteArray.ext; simp [dd])
        go_wp2
        go_ret
        refine ⟨ret_str ?_, rfl⟩
        rw [HS.out]
        exact (str_append #[45] (Lib.decDigits U).toArray).trans (by congr 1; simp)
  · obtain ⟨U, rfl⟩ : ∃ U : Nat, n = U := ⟨n.toNat, by omega⟩
    have hU : U < 18446744073709551616 := by omega
    have hit : Lib.itoa (U : Int) = Lib.decDigits U := Lib.itoa_nonneg U
    rw [hit]
    have hch := rune_dec (U % 10) (by omega) (48 + (U : Int) % 10) (by omega)
    clear hit h0 hn
    go_enter Tryd.func40, Tryd.ntmps40
    go_wp2
    clear hch
    go_loop [3, 4] (fun x s => ∃ (u : Nat) (S : ByteArray), x = .int .u64 u ∧ s = .string S ∧ u ≤ U ∧ S.size ≤ 20 ∧ Hid (Lib.decDigits U = dd u ++ S.data.toList ∧ u * 10 ^ S.size ≤ U)) (fun x _ => (intOf x).toNat)
    case atStart => exact ⟨U / 10, ⟨#[dgc (U % 10)]⟩, by go_num, rfl, by omega, by rw [h1s]; omega, Lib.hid ⟨dd_first U, by rw [h1s]; omega⟩⟩
    case round =>
      obtain ⟨u, S, rfl, rfl, hu, hSz, H⟩ := hrel
      by_cases hu0 : 0 < u
      · have hbd : S.size ≤ 19 := size_bd u S.size U hu0 H.out.2 hU
        have hch := rune_dec (u % 10) (by omega) (48 + (u : Int) % 10) (by omega)
        have HS : Hid (Lib.decDigits U = dd (u / 10) ++ (ByteArray.mk #[dgc (u % 10)] ++ S).data.toList ∧ u / 10 * 10 ^ (ByteArray.mk #[dgc (u % 10)] ++ S).size ≤ U) := Lib.hid (by
          constructor
          · rw [H.out.1, dd_step u hu0, ByteArray.data_append]; simp
          · rw [ByteArray.size_append, h1s, Nat.pow_add, Nat.pow_one, ← Nat.mul_assoc]
            exact Nat.le_trans (Nat.mul_le_mul_right _ (Nat.div_mul_le_self u 10)) H.out.2)
        go_wp2
        go_round
        case rel => exact ⟨u / 10, ByteArray.mk #[dgc (u % 10)] ++ S, by go_num, rfl, by omega, by rw [ByteArray.size_append, h1s]; omega, HS⟩
        case measure => simp [intOf]; omega
      · obtain rfl : u = 0 := by omega
        have HS : Hid (S = ⟨(Lib.decDigits U).toArray⟩) := Lib.hid (by rw [H.out.1]; apply ByteArray.ext; simp [dd])
        go_wp2
        go_ret
        exact ⟨ret_str HS.out, rfl⟩
/-- The program's Int: the number and OK, or 0 and EFORM. -/
def IntPost (s : ByteArray) (w : World) (e : Ending) (w' : World) : Prop :=
  (match numI s.data.toList with
    | some n => e = .returned (.tuple #[.int .i64 n, .int .i64 0])
    | none => e = .returned (.tuple #[.int .i64 0, .int .i64 2])) ∧ Below w.heap.size w w'
theorem bytesWorld_or (w w' : World) (h : w' = w ∨ ∃ t, w' = Lib.bytesWorld w 5 t) : Below w.heap.size w w' := by
  rcases h with rfl | ⟨t, rfl⟩
  · exact Below.refl _ _
  · exact Lib.bytesWorld_below w _ t
def AtoiPost (s : ByteArray) (w : World) (e : Ending) (w' : World) : Prop :=
  ((∃ v, Lib.atoiAll s.data.toList = .ok v ∧ e = .returned (.tuple #[.int .i64 v, .nilIface])) ∨ ((∀ v, Lib.atoiAll s.data.toList ≠ .ok v) ∧ ∃ x p, e = .returned (.tuple #[.int .i64 x, .iface 80 p]))) ∧ Below w.heap.size w w'
theorem atoi_any (s : ByteArray) (hs : s.size ≤ 1000) (w : World) (h : LaidE w) : Calls Tryd.prog 50 #[.string s] w (AtoiPost s w) := by
  cases hr : Lib.atoiAll s.data.toList with
  | ok v => exact (Any.strconv_Atoi_ok Tryd.laysC172 s (by omega) v hr w).mono fun e w' he => ⟨Or.inl ⟨v, hr, he.1⟩, bytesWorld_or w w' he.2⟩
  | range =>
    obtain ⟨tp, p, hv⟩ := h.rng
    exact (Any.strconv_Atoi_range_var Tryd.laysC172 s (by omega) hr tp p w hv).mono fun e w' ⟨N, he, _, _, hb⟩ => ⟨Or.inr ⟨fun v => by rw [hr]; simp, _, _, he⟩, hb⟩
  | _ =>
    obtain ⟨tp, p, hv⟩ := h.syn
    exact (Any.strconv_Atoi_syntax_var Tryd.laysC172 s (by omega) hr tp p w hv).mono fun e w' ⟨N, he, _, _, hb⟩ => ⟨Or.inr ⟨fun v => by rw [hr]; simp, _, _, he⟩, hb⟩
theorem atoi_bd (l : List UInt8) (v : Int) (h : Lib.atoiAll l = .ok v) : -9223372036854775808 ≤ v ∧ v ≤ 9223372036854775807 := Lib.atoiAll_bounds h
set_option maxHeartbeats 2000000 in
theorem int_any (s : ByteArray) (hs : s.size ≤ 1000) (w : World) (h : LaidE w) : Calls Tryd.prog 37 #[.string s] w (IntPost s w) := by
  have H := atoi_any s hs w h
  have HE := Lib.hid h
  clear h
  by_cases hok : ∃ v, Lib.atoiAll s.data.toList = .ok v
  · obtain ⟨v, hv⟩ := hok
    have H2 : Calls Tryd.prog 50 #[.string s] w fun e w' => e = .returned (.tuple #[.int .i64 v, .nilIface]) ∧ Below w.heap.size w w' := H.mono fun e w' he => by
      obtain ⟨h1 | h1, hb⟩ := he
      · obtain ⟨v', h2, h3⟩ := h1
        rw [hv] at h2
        cases h2
        exact ⟨h3, hb⟩
      · exact absurd hv (h1.1 v)
    obtain ⟨hv0, hv1⟩ := atoi_bd _ v hv
    have HV := Lib.hid hv
    clear H hv
    by_cases hq : Lib.itoa v = s.data.toList
    · have HN : Hid (numI s.data.toList = some v) := Lib.hid (by rw [← hq]; exact numI_itoa v hv0 hv1)
      have hqt : (Lib.itoa v == s.toList) = true := by rw [ByteArray.toList_eq, hq]; simp
      clear hq
      go_enter Tryd.func37, Tryd.ntmps37
      go_wp2_with (go_at_call 50; refine H2.mono ?_; rintro e w1 ⟨rfl, hb1⟩; refine Hid.out ?_)
      have A1 := text_any v hv0 hv1 w1 (HE.out.on hb1).laid
      have HB1 := Lib.hid hb1
      clear hb1 H2
      refine Lib.hid ?_
      go_wp2_with (go_at_call 39; refine A1.mono ?_; rintro e w2 ⟨rfl, hb2⟩; have HB2 := Lib.hid hb2; clear hb2)
      go_ret2
      unfold IntPost
      rw [HN.out]
      exact ⟨rfl, fin HB1.out HB2.out⟩
    · have HN : Hid (numI s.data.toList = none) := Lib.hid (by
        cases hn : numI s.data.toList with
        | none => rfl
        | some n =>
          obtain ⟨e1, e2, e3⟩ := numI_some hn
          have := atoi_itoa n e2 e3
          rw [e1, HV.out] at this
          cases this
          exact absurd e1 hq)
      have hqt : (Lib.itoa v == s.toList) = false := by rw [ByteArray.toList_eq]; simpa using hq
      clear hq
      go_enter Tryd.func37, Tryd.ntmps37
      go_wp2_with (go_at_call 50; refine H2.mono ?_; rintro e w1 ⟨rfl, hb1⟩; refine Hid.out ?_)
      have A1 := text_any v hv0 hv1 w1 (HE.out.on hb1).laid
      have HB1 := Lib.hid hb1
      clear hb1 H2
      refine Lib.hid ?_
      go_wp2_with (go_at_call 39; refine A1.mono ?_; rintro e w2 ⟨rfl, hb2⟩; have HB2 := Lib.hid hb2; clear hb2)
      go_ret2
      unfold IntPost
      rw [HN.out]
      exact ⟨rfl, fin HB1.out HB2.out⟩
  · have H2 : Calls Tryd.prog 50 #[.string s] w fun e w' => (∃ x p, e = .returned (.tuple #[.int .i64 x, .iface 80 p])) ∧ Below w.heap.size w w' := H.mono fun e w' he => by
      obtain ⟨h1 | h1, hb⟩ := he
      · obtain ⟨v', h2, h3⟩ := h1
        exact absurd ⟨v', h2⟩ hok
      · exact ⟨h1.2, hb⟩
    have HN : Hid (numI s.data.toList = none) := Lib.hid (by
      cases hn : numI s.data.toList with
      | none => rfl
      | some n =>
        obtain ⟨e1, e2, e3⟩ := numI_some hn
        have := atoi_itoa n e2 e3
        rw [e1] at this
        exact absurd ⟨n, this⟩ hok)
    clear H hok
    go_enter Tryd.func37, Tryd.ntmps37
    go_wp2_with (go_at_call 50; refine H2.mono ?_; rintro e w1 ⟨⟨x, p, rfl⟩, hb1⟩; have HB1 := Lib.hid hb1; clear hb1)
    go_ret2
    unfold IntPost
    rw [HN.out]
    exact ⟨rfl, HB1.out⟩
def IntRPost (l : List UInt8) (w : World) (e : Ending) (w' : World) : Prop :=
  (match numI l with
    | some n => e = .returned (.tuple #[.int .i64 n, .bool true])
    | none => e = .returned (.tuple #[.int .i64 0, .bool false])) ∧ w = w'
set_option maxHeartbeats 4000000 in
theorem int_ref (s : ByteArray) (hs : s.size ≤ 1000) (w : World) : Calls Tryd.prog 38 #[.string s] w (IntRPost s.data.toList w) := by
  have hlen : s.data.toList.length = s.size := Lib.size_eq s
  have HLEN := Lib.hid hlen
  clear hlen
  by_cases hbig : 20 < s.size
  · have HN : Hid (numI s.data.toList = none) := Lib.hid (by
      cases hn : numI s.data.toList with
      | none => rfl
      | some n => exact absurd (numI_len hn) (by rw [HLEN.out]; omega))
    by_cases h45 : s[0].toNat = 45
    · have hb : ((s[0].toNat : Int) == 45) = true := by rw [beq_iff_eq]; omega
      clear h45
      go_enter Tryd.func38, Tryd.ntmps38
      go_wp2
      go_ret2
      unfold IntRPost
      rw [HN.out]
      exact ⟨rfl, rfl⟩
    · have hb : ((s[0].toNat : Int) == 45) = false := by rw [beq_eq_false_iff_ne]; omega
      clear h45
      go_enter Tryd.func38, Tryd.ntmps38
      go_wp2
      go_ret2
      unfold IntRPost
      rw [HN.out]
      exact ⟨rfl, rfl⟩
  · obtain ⟨r, hr⟩ : ∃ r, r = rI s.data.toList := ⟨_, rfl⟩
    obtain ⟨hr0, hr1⟩ := rI_bd s.data.toList
    rw [← hr] at hr0 hr1
    have HRR := Lib.hid hr.symm
    have hsz : s.size ≤ 20 := by omega
    clear hbig
    by_cases h0 : s.size = 0
    · have HR : Hid (IntKind.i64.wrap (uval s.data.toList : Int) = r) := Lib.hid (by
        rw [hr]; unfold rI
        have : s.data.toList = [] := List.eq_nil_of_length_eq_zero (by rw [HLEN.out, h0])
        rw [this, if_neg (by simp)])
      have hz : s.size ≤ 0 := by omega
      clear hr h0
      go_enter Tryd.func38, Tryd.ntmps38
      go_wp2
      go_loop [4, 6] (fun u i => ∃ (k U : Nat), k ≤ s.size ∧ i = .int .i64 k ∧ u = .int .u64 U ∧ U < 18446744073709551616 ∧ Hid (U = uval (s.data.toList.take k))) (fun _ i => s.size - (intOf i).toNat)
      case atStart => exact ⟨0, 0, by omega, rfl, rfl, by omega, Lib.hid rfl⟩
      case round =>
        obtain ⟨k, U, hk, rfl, rfl, hU, H⟩ := hrel
        by_cases hlt : k < s.size
        · have hc := s[k].toNat_lt
          have hst : uval (s.data.toList.take (k + 1)) = ustep U s[k] := by rw [take_snoc s k hlt, uval_snoc, ← H.out]
          by_cases h45 : s[k].toNat = 45
          · have HS : Hid (uval (s.data.toList.take (k + 1)) = U) := Lib.hid (by rw [hst]; unfold ustep; rw [if_pos h45])
            have hb : ((s[k].toNat : Int) != 45) = false := by rw [bne_eq_false_iff_eq]; omega
            clear hst h45
            go_wp2
            go_round
            case rel => exact ⟨k + 1, U, by omega, by go_num, rfl, hU, Lib.hid HS.out.symm⟩
            case measure => simp [intOf]; omega
          · have HS : Hid (((uval (s.data.toList.take (k + 1)) : Nat) : Int) = IntKind.u64.wrap (IntKind.u64.wrap (IntKind.u64.wrap (10 * (U : Int)) + s[k].toNat) - 48)) := Lib.hid (by
              rw [hst]; unfold ustep; rw [if_neg h45, Int.toNat_of_nonneg (wrap_u64_nonneg _).1])
            have hb : ((s[k].toNat : Int) != 45) = true := by rw [bne_iff_ne]; omega
            clear hst h45
            go_wp2
            go_round
            case rel => exact ⟨k + 1, uval (s.data.toList.take (k + 1)), by omega, by go_num, by rw [HS.out] <;> (congr 1; simp only [IntKind.wrap_u64]; omega), uval_lt _, Lib.hid rfl⟩
            case measure => simp [intOf]; omega
        · obtain rfl : k = s.size := by omega
          have HU : Hid (U = uval s.data.toList) := Lib.hid (by rw [H.out, List.take_of_length_le (by rw [HLEN.out]; omega)])
          clear H hlt
          have hwr : IntKind.i64.wrap (U : Int) = r := by rw [← HR.out, HU.out]
          have T := fun w => text_ref r hr0 hr1 w
          by_cases hq : Lib.itoa r = s.data.toList
          · have HN : Hid (numI s.data.toList = some r) := Lib.hid (by unfold numI; rw [HRR.out, if_pos hq])
            have hqt : (Lib.itoa r == s.toList) = true := by rw [ByteArray.toList_eq, hq]; simp
            clear hq
            go_wp2_with (go_at_call 40; refine (T _).mono ?_; rintro e w2 ⟨rfl, rfl⟩)
            go_ret2
            unfold IntRPost
            rw [HN.out]
            exact ⟨rfl, rfl⟩
          · have HN : Hid (numI s.data.toList = none) := Lib.hid (by unfold numI; rw [HRR.out, if_neg hq])
            have hqt : (Lib.itoa r == s.toList) = false := by rw [ByteArray.toList_eq]; simpa using hq
            clear hq
            go_wp2_with (go_at_call 40; refine (T _).mono ?_; rintro e w2 ⟨rfl, rfl⟩)
            go_ret2
            unfold IntRPost
            rw [HN.out]
            exact ⟨rfl, rfl⟩
    · have hp : 0 < s.size := by omega
      have hhead : s.data.toList.head? = some s[0] := by
        rw [List.head?_eq_getElem?, List.getElem?_eq_getElem (by rw [HLEN.out]; omega)]
        rfl
      by_cases h45 : s[0].toNat = 45
      · have HR : Hid (IntKind.i64.wrap (IntKind.u64.wrap (-(uval s.data.toList : Int))) = r) := Lib.hid (by
          rw [hr]; unfold rI
          have e : s[0] = 45 := UInt8.toNat_inj.1 h45
          rw [hhead, e, if_pos rfl])
        have hb : ((s[0].toNat : Int) == 45) = true := by rw [beq_iff_eq]; omega
        clear hr h0 h45 hhead
        go_enter Tryd.func38, Tryd.ntmps38
        go_wp2
        go_loop [4, 6] (fun u i => ∃ (k U : Nat), k ≤ s.size ∧ i = .int .i64 k ∧ u = .int .u64 U ∧ U < 18446744073709551616 ∧ Hid (U = uval (s.data.toList.take k))) (fun _ i => s.size - (intOf i).toNat)
        case atStart => exact ⟨0, 0, by omega, rfl, rfl, by omega, Lib.hid rfl⟩
        case round =>
          obtain ⟨k, U, hk, rfl, rfl, hU, H⟩ := hrel
          by_cases hlt : k < s.size
          · have hc := s[k].toNat_lt
            have hst : uval (s.data.toList.take (k + 1)) = ustep U s[k] := by rw [take_snoc s k hlt, uval_snoc, ← H.out]
            by_cases h45 : s[k].toNat = 45
            · have HS : Hid (uval (s.data.toList.take (k + 1)) = U) := Lib.hid (by rw [hst]; unfold ustep; rw [if_pos h45])
              have hb : ((s[k].toNat : Int) != 45) = false := by rw [bne_eq_false_iff_eq]; omega
              clear hst h45
              go_wp2
              go_round
              case rel => exact ⟨k + 1, U, by omega, by go_num, rfl, hU, Lib.hid HS.out.symm⟩
              case measure => simp [intOf]; omega
            · have HS : Hid (((uval (s.data.toList.take (k + 1)) : Nat) : Int) = IntKind.u64.wrap (IntKind.u64.wrap (IntKind.u64.wrap (10 * (U : Int)) + s[k].toNat) - 48)) := Lib.hid (by
                rw [hst]; unfold ustep; rw [if_neg h45, Int.toNat_of_nonneg (wrap_u64_nonneg _).1])
              have hb : ((s[k].toNat : Int) != 45) = true := by rw [bne_iff_ne]; omega
              clear hst h45
              go_wp2
              go_round
              case rel => exact ⟨k + 1, uval (s.data.toList.take (k + 1)), by omega, by go_num, by rw [HS.out] <;> (congr 1; simp only [IntKind.wrap_u64]; omega), uval_lt _, Lib.hid rfl⟩
              case measure => simp [intOf]; omega
          · obtain rfl : k = s.size := by omega
            have HU : Hid (U = uval s.data.toList) := Lib.hid (by rw [H.out, List.take_of_length_le (by rw [HLEN.out]; omega)])
            clear H hlt
            have hwr : IntKind.i64.wrap (IntKind.u64.wrap (-(U : Int))) = r := by rw [← HR.out, HU.out]
            have T := fun w => text_ref r hr0 hr1 w
            by_cases hq : Lib.itoa r = s.data.toList
            · have HN : Hid (numI s.data.toList = some r) := Lib.hid (by unfold numI; rw [HRR.out, if_pos hq])
              have hqt : (Lib.itoa r == s.toList) = true := by rw [ByteArray.toList_eq, hq]; simp
              clear hq
              go_wp2_with (go_at_call 40; refine (T _).mono ?_; rintro e w2 ⟨rfl, rfl⟩)
              go_ret2
              unfold IntRPost
              rw [HN.out]
              exact ⟨rfl, rfl⟩
            · have HN : Hid (numI s.data.toList = none) := Lib.hid (by unfold numI; rw [HRR.out, if_neg hq])
              have hqt : (Lib.itoa r == s.toList) = false := by rw [ByteArray.toList_eq]; simpa using hq
              clear hq
              go_wp2_with (go_at_call 40; refine (T _).mono ?_; rintro e w2 ⟨rfl, rfl⟩)
              go_ret2
              unfold IntRPost
              rw [HN.out]
              exact ⟨rfl, rfl⟩
      · have HR : Hid (IntKind.i64.wrap (uval s.data.toList : Int) = r) := Lib.hid (by
          rw [hr]; unfold rI
          have e : ¬ s[0] = 45 := fun h => h45 (by rw [h]; rfl)
          rw [hhead, if_neg (by simpa using e)])
        have hb : ((s[0].toNat : Int) == 45) = false := by rw [beq_eq_false_iff_ne]; omega
        clear hr h0 h45 hhead
        go_enter Tryd.func38, Tryd.ntmps38
        go_wp2
        go_loop [4, 6] (fun u i => ∃ (k U : Nat), k ≤ s.size ∧ i = .int .i64 k ∧ u = .int .u64 U ∧ U < 18446744073709551616 ∧ Hid (U = uval (s.data.toList.take k))) (fun _ i => s.size - (intOf i).toNat)
        case atStart => exact ⟨0, 0, by omega, rfl, rfl, by omega, Lib.hid rfl⟩
        case round =>
          obtain ⟨k, U, hk, rfl, rfl, hU, H⟩ := hrel
          by_cases hlt : k < s.size
          · have hc := s[k].toNat_lt
            have hst : uval (s.data.toList.take (k + 1)) = ustep U s[k] := by rw [take_snoc s k hlt, uval_snoc, ← H.out]
            by_cases h45 : s[k].toNat = 45
            · have HS : Hid (uval (s.data.toList.take (k + 1)) = U) := Lib.hid (by rw [hst]; unfold ustep; rw [if_pos h45])
              have hb : ((s[k].toNat : Int) != 45) = false := by rw [bne_eq_false_iff_eq]; omega
              clear hst h45
              go_wp2
              go_round
              case rel => exact ⟨k + 1, U, by omega, by go_num, rfl, hU, Lib.hid HS.out.symm⟩
              case measure => simp [intOf]; omega
            · have HS : Hid (((uval (s.data.toList.take (k + 1)) : Nat) : Int) = IntKind.u64.wrap (IntKind.u64.wrap (IntKind.u64.wrap (10 * (U : Int)) + s[k].toNat) - 48)) := Lib.hid (by
                rw [hst]; unfold ustep; rw [if_neg h45, Int.toNat_of_nonneg (wrap_u64_nonneg _).1])
              have hb : ((s[k].toNat : Int) != 45) = true := by rw [bne_iff_ne]; omega
              clear hst h45
              go_wp2
              go_round
              case rel => exact ⟨k + 1, uval (s.data.toList.take (k + 1)), by omega, by go_num, by rw [HS.out] <;> (congr 1; simp only [IntKind.wrap_u64]; omega), uval_lt _, Lib.hid rfl⟩
              case measure => simp [intOf]; omega
          · obtain rfl : k = s.size := by omega
            have HU : Hid (U = uval s.data.toList) := Lib.hid (by rw [H.out, List.take_of_length_le (by rw [HLEN.out]; omega)])
            clear H hlt
            have hwr : IntKind.i64.wrap (U : Int) = r := by rw [← HR.out, HU.out]
            have T := fun w => text_ref r hr0 hr1 w
            by_cases hq : Lib.itoa r = s.data.toList
            · have HN : Hid (numI s.data.toList = some r) := Lib.hid (by unfold numI; rw [HRR.out, if_pos hq])
              have hqt : (Lib.itoa r == s.toList) = true := by rw [ByteArray.toList_eq, hq]; simp
              clear hq
              go_wp2_with (go_at_call 40; refine (T _).mono ?_; rintro e w2 ⟨rfl, rfl⟩)
              go_ret2
              unfold IntRPost
              rw [HN.out]
              exact ⟨rfl, rfl⟩
            · have HN : Hid (numI s.data.toList = none) := Lib.hid (by unfold numI; rw [HRR.out, if_neg hq])
              have hqt : (Lib.itoa r == s.toList) = false := by rw [ByteArray.toList_eq]; simpa using hq
              clear hq
              go_wp2_with (go_at_call 40; refine (T _).mono ?_; rintro e w2 ⟨rfl, rfl⟩)
              go_ret2
              unfold IntRPost
              rw [HN.out]
              exact ⟨rfl, rfl⟩
set_option maxHeartbeats 4000000 in
theorem walk (n : Int) (hn : -9223372036854775808 ≤ n ∧ n ≤ 9223372036854775807) (s : ByteArray) (_ : s.size ≤ 9223372036854775807) (w : World) (h : LaidE w) :
    Calls Tryd.prog 9 #[.int .i64 n, .string s] w fun e w' => e = .returned (.bool true) ∧ Below w.heap.size w w' := by
  obtain ⟨hn0, hn1⟩ := hn
  by_cases hs : s.size ≤ 1000
  · have C1 := fun w (h : Laid w) => text_any n hn0 hn1 w h
    have C2 := fun w => text_ref n hn0 hn1 w
    have hsz : (ByteArray.mk (Lib.itoa n).toArray).size ≤ 1000 := by rw [size_of_list]; have := itoa_len n hn0 hn1; omega
    have C3 : ∀ w, LaidE w → Calls Tryd.prog 37 #[.string ⟨(Lib.itoa n).toArray⟩] w fun e w' => e = .returned (.tuple #[.int .i64 n, .int .i64 0]) ∧ Below w.heap.size w w' := fun w h => (int_any _ hsz w h).mono fun e w' he => by
      unfold IntPost at he
      have hq : numI (ByteArray.mk (Lib.itoa n).toArray).data.toList = some n := numI_itoa n hn0 hn1
      rw [hq] at he
      exact he
    have P1 := int_any s hs w h
    have P2 := fun w => int_ref s hs w
    clear hsz
    generalize Lib.itoa n = y at *
    have HC1 := Lib.hid C1
    have HC3 := Lib.hid C3
    have HE := Lib.hid h
    cases hp : numI s.data.toList
    all_goals
      unfold IntPost at P1
      unfold IntRPost at P2
      rw [hp] at P1
      simp only [hp] at P2
      clear hp C1 C3 h
      go_enter Tryd.func9, Tryd.ntmps9
      go_wp2_with (go_at_call 37; refine P1.mono ?_; rintro e w1 ⟨rfl, hb1⟩; refine Hid.out ?_)
      have h1 := HE.out.on hb1
      have A1 := HC1.out w1 h1.laid
      have HB1 := Lib.hid (And.intro h1 hb1)
      clear h1 hb1 P1
      refine Lib.hid ?_
      go_wp2_with (first | (go_at_call 38; refine (P2 _).mono ?_; rintro e w2 ⟨rfl, rfl⟩) | (go_at_call 39; refine A1.mono ?_; rintro e w2 ⟨rfl, hb2⟩; refine Hid.out ?_))
      have h2 := HB1.out.1.on hb2
      have A2 := HC3.out w2 h2
      have HB2 := Lib.hid (And.intro h2 hb2)
      clear h2 hb2 A1
      refine Lib.hid ?_
      go_wp2_with (go_at_call 37; refine A2.mono ?_; rintro e w3 ⟨rfl, hb3⟩; refine Hid.out ?_)
      have h3 := HB2.out.1.on hb3
      have A3 := HC1.out w3 h3.laid
      have HB3 := Lib.hid (And.intro h3 hb3)
      clear h3 hb3 A2
      refine Lib.hid ?_
      go_wp2_with (go_at_call 39; refine A3.mono ?_; rintro e w4 ⟨rfl, hb4⟩; refine Hid.out ?_)
      have h4 := HB3.out.1.on hb4
      have A4 := awake_any w4 h4.laid
      have HB4 := Lib.hid hb4
      clear h4 hb4 A3
      refine Lib.hid ?_
      go_wp2_with (first | (go_at_call 40; refine (C2 _).mono ?_; rintro e w5 ⟨rfl, rfl⟩) | (go_at_call 15; first | ((with_reducible refine (is_ok _).mono ?_); rintro e w5 ⟨rfl, rfl⟩) | ((with_reducible refine (is_form _).mono ?_); rintro e w5 ⟨rfl, rfl⟩)) | (go_at_call 10; refine A4.mono ?_; rintro e w5 ⟨rfl, hb5⟩; have HB5 := Lib.hid hb5; clear hb5))
      go_ret
      exact ⟨rfl, fin (fin (fin (fin HB1.out.2 HB2.out.2) HB3.out.2) HB4.out) HB5.out⟩
  · have A := awake_any w h.laid
    have hs' : 1000 < s.size := by omega
    clear h hs
    go_enter Tryd.func9, Tryd.ntmps9
    go_wp2_with (go_at_call 10; refine A.mono ?_; rintro e w1 ⟨rfl, hb⟩; have HB := Lib.hid hb; clear hb)
    go_ret
    exact ⟨rfl, HB.out⟩
end Go.Proofs.YtgoekfonbpffdaaDoor.bitsTextsw
