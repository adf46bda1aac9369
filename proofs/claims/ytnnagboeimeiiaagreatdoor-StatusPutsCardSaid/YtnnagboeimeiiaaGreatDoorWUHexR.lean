import Derived.Test.YtnnagboeimeiiaaGreatDoorWLaid
import Derived.Test.YtnnagboeimeiiaaGreatDoorWParseMath
namespace Go.Proofs.YtnnagboeimeiiaaGreatDoor
open Go.RowKit Go.Sort
theorem enc_fin : ∀ d : Fin 16, Utf8.encode ((dgc d.val).toNat : Int) = ⟨#[dgc d.val]⟩ := by decide +kernel
theorem rune_at (d : Nat) (hd : d < 16) (z : Int) (hz : z = ((dgc d).toNat : Int)) (w : World) : (convert 21 9 (.int .i32 z)).run Tryz.prog w = .ok (.string ⟨#[dgc d]⟩) w := by
 rw [run_convert_int_string w 21 9 .i32 _ (by kernel_rfl) Tryz.underlying9, hz]
 have h := enc_fin ⟨d, hd⟩
 simp only at h
 rw [h]
theorem digL_cons (b u k : Nat) : (ByteArray.mk #[dgc (u / b ^ k % b)] ++ ByteArray.mk (digL b u k).toArray) = ByteArray.mk (digL b u (k + 1)).toArray := by
 rw [str_append, digL_succ]
 congr 1
 simp
set_option maxHeartbeats 1000000 in
theorem hex_ref (q : Nat) (hq : q < 18446744073709551616) (w : World) :
   Calls Tryz.prog 106 #[.int .u64 q] w fun e w' => e = .returned (.string ⟨(digL 16 q 16).toArray⟩) ∧ w = w' := by
 go_enter Tryz.func106, Tryz.ntmps106
 go_wp2
 go_loop [0, 3, 4, 5] (fun n s i _ => ∃ (k N : Nat) (S : ByteArray), k ≤ 16 ∧ n = .int .u64 N ∧ s = .string S ∧ i = .int .i64 k ∧ N < 18446744073709551616 ∧ S.size ≤ k ∧ Hid (N = q / 16 ^ k ∧ S = ⟨(digL 16 q k).toArray⟩)) (fun _ _ i _ => 16 - (intOf i).toNat)
 case atStart => exact ⟨0, q, ⟨#[]⟩, by omega, rfl, rfl, rfl, hq, Nat.le_refl _, Lib.hid ⟨by simp, rfl⟩⟩
 case round =>
   obtain ⟨k, N, S, hk, rfl, rfl, rfl, hN, hSz, H⟩ := hrel
   have h1s : ∀ x, (ByteArray.mk #[x]).size = 1 := fun _ => rfl
   by_cases hk4 : k < 16
   · have HS : Hid (ByteArray.mk #[dgc (N % 16)] ++ S = ⟨(digL 16 q (k + 1)).toArray⟩) := Lib.hid (by rw [H.out.2, H.out.1]; exact digL_cons 16 q k)
     have HD : Hid (N / 16 = q / 16 ^ (k + 1)) := Lib.hid (by rw [H.out.1, Nat.div_div_eq_div_mul, Nat.pow_succ])
     by_cases hd : N % 16 < 10
     · have hch := rune_at (N % 16) (by omega) (48 + (N : Int) % 16) (by rw [dgc_lt _ (by omega)]; omega)
       have hdi : (N : Int) % 16 < 10 := by omega
       go_wp2
       go_round
       case rel => exact ⟨k + 1, N / 16, ByteArray.mk #[dgc (N % 16)] ++ S, by omega, by go_num, rfl, by go_num, by omega, by rw [ByteArray.size_append, h1s]; omega, Lib.hid ⟨HD.out, HS.out⟩⟩
       case measure => simp [intOf]; omega
     · have hch := rune_at (N % 16) (by omega) (97 + (N : Int) % 16 - 10) (by rw [dgc_ge _ (by omega) (by omega)]; omega)
       have hdi : 10 ≤ (N : Int) % 16 := by omega
       go_wp2
       go_round
       case rel => exact ⟨k + 1, N / 16, ByteArray.mk #[dgc (N % 16)] ++ S, by omega, by go_num, rfl, by go_num, by omega, by rw [ByteArray.size_append, h1s]; omega, Lib.hid ⟨HD.out, HS.out⟩⟩
       case measure => simp [intOf]; omega
   · obtain rfl : k = 16 := by omega
     go_wp2
     go_ret
     exact ⟨ret_str H.out.2, rfl⟩
def rv (l : List UInt8) : Int := l.foldl (fun n c => 8 * n + (c.toNat : Int) - 48) 0
end Go.Proofs.YtnnagboeimeiiaaGreatDoor
namespace Go.Proofs.YtnnagboeimeiiaaGreatDoor
open Go.RowKit Go.Sort
def hstep (X : Nat) (c : UInt8) : Nat := (IntKind.u64.wrap (16 * (X : Int) + IntKind.u64.wrap (if 97 ≤ c.toNat then (c.toNat : Int) - 87 else (c.toNat : Int) - 48))).toNat
theorem hstep_eq (X : Nat) (c : UInt8) : ((hstep X c : Nat) : Int) = IntKind.u64.wrap (16 * (X : Int) + IntKind.u64.wrap (if 97 ≤ c.toNat then (c.toNat : Int) - 87 else (c.toNat : Int) - 48)) := by
 unfold hstep
 rw [Int.toNat_of_nonneg]
 rw [IntKind.wrap_u64]
 exact Int.emod_nonneg _ (by decide)
theorem hstep_lt (X : Nat) (c : UInt8) : hstep X c < 18446744073709551616 := by
 have h := hstep_eq X c
 rw [IntKind.wrap_u64] at h
 omega
theorem hstep_dgc (X d : Nat) (hd : d < 16) : hstep X (dgc d) = (16 * X + d) % 18446744073709551616 := by
 have h := hstep_eq X (dgc d)
 have e : (if 97 ≤ (dgc d).toNat then ((dgc d).toNat : Int) - 87 else ((dgc d).toNat : Int) - 48) = d := by
   rcases Nat.lt_or_ge d 10 with h1 | h1
   · rw [dgc_lt d h1, if_neg (by omega)]; omega
   · rw [dgc_ge d h1 hd, if_pos (by omega)]; omega
 rw [e, IntKind.wrap_u64, IntKind.wrap_u64] at h
 omega
def hv (l : List UInt8) : Nat := l.foldl hstep 0
theorem hv_snoc (l : List UInt8) (c : UInt8) : hv (l ++ [c]) = hstep (hv l) c := by unfold hv; rw [List.foldl_append, List.foldl_cons, List.foldl_nil]
theorem hv_digL0 (u : Nat) : ∀ (L acc : Nat), acc < 18446744073709551616 → (digL 16 u L).foldl hstep acc = (acc * 16 ^ L + u % 16 ^ L) % 18446744073709551616
 | 0, acc, h => by rw [digL_zero]; simp [Nat.mod_one]; omega
 | L + 1, acc, h => by
   have hd : u / 16 ^ L % 16 < 16 := Nat.mod_lt _ (by decide)
   rw [digL_succ, List.foldl_cons, hstep_dgc _ _ hd, hv_digL0 u L _ (Nat.mod_lt _ (by decide)), Nat.mod_pow_succ, Nat.pow_succ]
   have e : acc * (16 ^ L * 16) + (u % 16 ^ L + 16 ^ L * (u / 16 ^ L % 16)) = (16 * acc + u / 16 ^ L % 16) * 16 ^ L + u % 16 ^ L := by
     rw [Nat.add_mul, Nat.mul_comm (16 ^ L) 16, ← Nat.mul_assoc, Nat.mul_comm acc 16, Nat.mul_comm (16 ^ L) (u / 16 ^ L % 16)]
     omega
   rw [e]
   generalize 16 * acc + u / 16 ^ L % 16 = A
   generalize u % 16 ^ L = B
   rw [Nat.add_mod, Nat.mul_mod, Nat.mod_mod, ← Nat.mul_mod, ← Nat.add_mod]
theorem hv_num (m : Nat) (h : m < 16 ^ 16) : hv (digL 16 m 16) = m := by
 have h2 : m < 18446744073709551616 := h
 unfold hv
 rw [hv_digL0 m 16 0 (by omega), Nat.mod_eq_of_lt h, Nat.zero_mul, Nat.zero_add, Nat.mod_eq_of_lt h2]
theorem hv_lt (l : List UInt8) : hv l < 18446744073709551616 := by
 rcases List.eq_nil_or_concat l with rfl | ⟨l', c, rfl⟩
 · show 0 < 18446744073709551616
   omega
 · rw [List.concat_eq_append, hv_snoc]; exact hstep_lt _ _
theorem hv_eq (l : List UInt8) (h : digL 16 (hv l) 16 = l) : numOf 16 16 l = some (hv l) := by
 have hlt : hv l < 16 ^ 16 := hv_lt l
 generalize hv l = m at h hlt
 subst h
 exact numOf_digL 16 16 m (by decide) (by decide) hlt
theorem hv_ne (l : List UInt8) (h : ¬ digL 16 (hv l) 16 = l) : numOf 16 16 l = none := by
 cases hn : numOf 16 16 l with
 | none => rfl
 | some m =>
   have h1 := numOf_lt (numOf_len hn) hn
   exfalso
   apply h
   have e : hv l = m := by rw [← numOf_some hn]; exact hv_num m h1
   rw [e]
   exact numOf_some hn
def HexRPost (l : List UInt8) (w : World) (e : Ending) (w' : World) : Prop :=
 (match numOf 16 16 l with
   | some n => e = .returned (.tuple #[.int .u64 n, .bool true])
   | none => e = .returned (.tuple #[.int .u64 0, .bool false])) ∧ w = w'
set_option maxHeartbeats 2000000 in
theorem parseHex_ref (t : ByteArray) (ht : t.size ≤ 4000) (w : World) :
   Calls Tryz.prog 54 #[.string t] w (HexRPost t.data.toList w) := by
 have hlen : t.data.toList.length = t.size := Lib.size_eq t
 by_cases hs : t.size = 16
 · have HLEN := Lib.hid (hlen.trans hs)
   clear hlen
   have hs' : t.size ≤ 16 ∧ 16 ≤ t.size := by omega
   obtain ⟨hs0, hs1⟩ := hs'
   have hne : ((t.size : Int) != 16) = false := by rw [bne_eq_false_iff_eq]; omega
   clear hs
   go_enter Tryz.func54, Tryz.ntmps54
   go_wp2
   go_loop [4, 5, 6] (fun x i _ => ∃ (k X : Nat), k ≤ 16 ∧ i = .int .i64 k ∧ x = .int .u64 X ∧ X < 18446744073709551616 ∧ Hid (X = hv (t.data.toList.take k))) (fun _ i _ => 16 - (intOf i).toNat)
   case atStart => exact ⟨0, 0, by omega, rfl, rfl, by omega, Lib.hid rfl⟩
   case round =>
     obtain ⟨k, X, hk, rfl, rfl, hX, H⟩ := hrel
     by_cases hlt : k < 16
     · have hlt2 : k < t.size := by omega
       have hst : ((hv (t.data.toList.take (k + 1)) : Nat) : Int) = IntKind.u64.wrap (16 * (X : Int) + IntKind.u64.wrap (if 97 ≤ t[k].toNat then (t[k].toNat : Int) - 87 else (t[k].toNat : Int) - 48)) := by
         rw [take_snocB t k hlt2, hv_snoc, ← H.out, hstep_eq]
       have hc := t[k].toNat_lt
       by_cases h97 : 97 ≤ t[k].toNat
       · rw [if_pos h97] at hst
         have HS := Lib.hid hst
         clear hst
         go_wp2
         go_round
         case rel => exact ⟨k + 1, hv (t.data.toList.take (k + 1)), by omega, by go_num, by rw [HS.out]; congr 1; simp only [IntKind.wrap_u64]; omega, hv_lt _, Lib.hid rfl⟩
         case measure => simp [intOf]; omega
       · rw [if_neg h97] at hst
         have HS := Lib.hid hst
         clear hst
         go_wp2
         go_round
         case rel => exact ⟨k + 1, hv (t.data.toList.take (k + 1)), by omega, by go_num, by rw [HS.out]; congr 1; simp only [IntKind.wrap_u64]; omega, hv_lt _, Lib.hid rfl⟩
         case measure => simp [intOf]; omega
     · obtain rfl : k = 16 := by omega
       have hN : X = hv t.data.toList := by rw [H.out, List.take_of_length_le (by have := HLEN.out; omega)]
       have HN := Lib.hid hN
       have C := fun w => hex_ref X hX w
       clear hN hlt H
       by_cases hq : digL 16 X 16 = t.data.toList
       · have HM := Lib.hid (hv_eq t.data.toList (by rw [← HN.out]; exact hq))
         have hqt : (digL 16 X 16 == t.toList) = true := by rw [ByteArray.toList_eq, hq]; simp
         clear hq
         go_wp2_with (go_at_call 106; refine (C _).mono ?_; rintro e w1 ⟨rfl, rfl⟩)
         go_ret2
         unfold HexRPost
         rw [HM.out, ← HN.out]
         exact ⟨rfl, rfl⟩
       · have HR : Hid (numOf 16 16 t.data.toList = none) := Lib.hid (hv_ne _ (by rw [← HN.out]; exact hq))
         have hqt : (digL 16 X 16 == t.toList) = false := by rw [ByteArray.toList_eq]; simpa using hq
         clear hq
         go_wp2_with (go_at_call 106; refine (C _).mono ?_; rintro e w1 ⟨rfl, rfl⟩)
         go_ret2
         unfold HexRPost
         rw [HR.out]
         exact ⟨rfl, rfl⟩
 · have HR : Hid (numOf 16 16 t.data.toList = none) := Lib.hid (by
     cases h2 : numOf 16 16 t.data.toList with
     | none => rfl
     | some n => exact absurd (hlen.symm.trans (numOf_len h2)) hs)
   have hne : ((t.size : Int) != 16) = true := by rw [bne_iff_ne]; omega
   clear hs hlen
   go_enter Tryz.func54, Tryz.ntmps54
   go_wp2
   go_ret2
   unfold HexRPost
   rw [HR.out]
   exact ⟨rfl, rfl⟩
end Go.Proofs.YtnnagboeimeiiaaGreatDoor
