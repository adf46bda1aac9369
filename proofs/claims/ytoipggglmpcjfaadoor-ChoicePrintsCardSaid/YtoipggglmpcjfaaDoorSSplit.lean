/-
  The reference's Split, Lines, Words and (of layer 2) Same: what each returns; nothing old turns.
-/
import Derived.Test.YtoipggglmpcjfaaDoorLList
import Derived.Test.YtoipggglmpcjfaaDoorSMath
import Derived.Deep.RegionHeld3
namespace Go.Proofs.YtoipggglmpcjfaaDoor
open Go.RowKit
theorem extOne (s : ByteArray) (k : Nat) (h : k < s.size) : (s.extract k (k + 1)).data.toList = [s[k]] ∧ (s.extract k (k + 1)).size = 1 := by
  have e : (s.extract k (k + 1)).data.toList = [s[k]] := by
    rw [extL, Nat.add_sub_cancel_left, dropC s k h]; rfl
  exact ⟨e, by rw [sizeOf, e]; rfl⟩
def SplTo (c : UInt8) (s : Bs) (k : Nat) (out : List Bs) (u : Bs) : Prop := spl c s = out ++ glue u (spl c (s.drop k))
theorem SplTo.start (c : UInt8) (s : Bs) : SplTo c s 0 [] [] := by unfold SplTo; rw [List.drop_zero, glue_nil (spl_ne _ _)]; rfl
theorem SplTo.cut {c : UInt8} {s : ByteArray} {k : Nat} {out : List Bs} {u : Bs} (h : SplTo c s.data.toList k out u) (hk : k < s.size) (e : s[k] = c) : SplTo c s.data.toList (k + 1) (out ++ [u]) [] := by
  unfold SplTo at *
  rw [h, spl_step c s k hk, if_pos e, glue_nil (spl_ne _ _)]
  simp [glue]
theorem SplTo.go {c : UInt8} {s : ByteArray} {k : Nat} {out : List Bs} {u : Bs} (h : SplTo c s.data.toList k out u) (hk : k < s.size) (e : ¬ s[k] = c) : SplTo c s.data.toList (k + 1) out (u ++ [s[k]]) := by
  unfold SplTo at *
  rw [h, spl_step c s k hk, if_neg e, glue_glue]
theorem SplTo.done {c : UInt8} {s : ByteArray} {out : List Bs} {u : Bs} (h : SplTo c s.data.toList s.size out u) : spl c s.data.toList = out ++ [u] := by
  unfold SplTo at h
  rw [h, dropAll]; simp [spl, glue]
set_option maxRecDepth 100000 in
set_option maxHeartbeats 4000000 in
theorem split_ref6 (s : ByteArray) (hs : s.size ≤ 100000) (c : UInt8) (w : World) :
    Calls Tryd.prog 42 #[.string s, .int .u8 c.toNat] w fun e w' => ∃ v, e = .returned v ∧ OwnT w' w.heap.size v (spl c s.data.toList) ∧ Below w.heap.size w w' := by
  obtain ⟨i0, hi, hz0, hz1, hz2⟩ := info_parts infoT
  have hcc := c.toNat_lt
  go_enter Tryd.func42, Tryd.ntmps42
  go_wp2
  go_loopw [5, 6, 7] (fun o u i wr => ∃ (k : Nat) (out : List Bs) (U : ByteArray), k ≤ s.size ∧ i = .int .i64 k ∧ u = .string U ∧ out.length ≤ k ∧ U.size ≤ k ∧ Hid (SplTo c s.data.toList k out U.data.toList) ∧ Hid (OwnT wr w.heap.size o out) ∧ Hid (Below w.heap.size w wr)) (fun _ _ i _ => s.size - (intOf i).toNat)
  case atStart => exact ⟨0, [], ⟨#[]⟩, by omega, rfl, rfl, Nat.le_refl _, Nat.le_refl _, Lib.hid (SplTo.start _ _), Lib.hid (OwnT.nil _ _), Lib.hid (Below.refl _ _)⟩
  case round =>
    obtain ⟨k, out, U, hk, rfl, rfl, hol, hU, HS, HO, HB⟩ := hrel
    have hsz := HB.out.size
    by_cases hlt : k < s.size
    · have hx := s[k].toNat_lt
      by_cases he : s[k] = c
      · have h1 : ((s[k].toNat : Int) == (c.toNat : Int)) = true := by rw [he]; simp
        have HN := Lib.hid (HS.out.cut hlt he)
        clear he HS
        go_wp2_with (first | (at_builtin; refine wpList_append_own _ rfl _ _ 51 rfl w.heap.size 9 i0 (.string ⟨#[]⟩) 1 16 Tryd.underlying51 hi hz0 hz1 hz2 rfl (by decide) _ _ _ rfl (World.ownsRow.alloc HO.out _) ⟨wr.heap.size, 0, none⟩ 1 1 [.string U] rfl rfl ?c1 ?c2 ?c3 ?c4 ?c5 ?_))
        case c1 =>
          intro j u hj
          match j, hj with
          | 0, hj => simp at hj; subst hj; simp [Addr.add]
        case c2 => intro u hu; simp at hu; subst hu; rfl
        case c3 => unfold maxLen; omega
        case c4 => omega
        case c5 => simp; omega
        · intro v' w1 hown' hgrow _
          have HO' : Hid (OwnT w1 w.heap.size v' (out ++ [U.data.toList])) := Lib.hid (OwnT.app rfl hown')
          have HB' : Hid (Below w.heap.size w w1) := Lib.hid (belowG HB.out HO.out hgrow (Nat.le_refl _) hsz)
          clear hown' hgrow
          go_wp2
          go_roundw
          case rel => exact ⟨k + 1, out ++ [U.data.toList], ⟨#[]⟩, by omega, by go_num, rfl, by simp; omega, Nat.zero_le _, HN, HO', HB'⟩
          case measure => simp [intOf]; omega
      · have h1 : ((s[k].toNat : Int) == (c.toNat : Int)) = false := by
          rw [beq_eq_false_iff_ne]; intro g; exact he (UInt8.toNat_inj.1 (by omega))
        obtain ⟨x1, x2⟩ := extOne s k hlt
        have HN : Hid (SplTo c s.data.toList (k + 1) out (U ++ s.extract k (k + 1)).data.toList) := Lib.hid (by rw [ByteArray.data_append, Array.toList_append, x1]; exact HS.out.go hlt he)
        have hsx : (s.extract k (k + 1)).size ≤ 1 := by omega
        clear he HS x1 x2
        go_wp2
        go_roundw
        case rel => exact ⟨k + 1, out, U ++ s.extract k (k + 1), by omega, by go_num, rfl, by omega, by rw [ByteArray.size_append]; omega, HN, HO, HB⟩
        case measure => simp [intOf]; omega
    · obtain rfl : k = s.size := by omega
      have HN := Lib.hid HS.out.done
      clear hlt HS
      go_wp2_with (first | (at_builtin; refine wpList_append_own _ rfl _ _ 51 rfl w.heap.size 9 i0 (.string ⟨#[]⟩) 1 16 Tryd.underlying51 hi hz0 hz1 hz2 rfl (by decide) _ _ _ rfl (World.ownsRow.alloc HO.out _) ⟨wr.heap.size, 0, none⟩ 1 1 [.string U] rfl rfl ?c1 ?c2 ?c3 ?c4 ?c5 ?_))
      case c1 =>
        intro j u hj
        match j, hj with
        | 0, hj => simp at hj; subst hj; simp [Addr.add]
      case c2 => intro u hu; simp at hu; subst hu; rfl
      case c3 => unfold maxLen; omega
      case c4 => omega
      case c5 => simp; omega
      · intro v' w1 hown' hgrow _
        have HO' : Hid (OwnT w1 w.heap.size v' (spl c s.data.toList)) := Lib.hid (by rw [HN.out]; exact OwnT.app rfl hown')
        have HB' : Hid (Below w.heap.size w w1) := Lib.hid (belowG HB.out HO.out hgrow (Nat.le_refl _) hsz)
        clear hown' hgrow
        go_wp2
        go_ret
        exact ⟨_, rfl, HO'.out, HB'.out⟩
end Go.Proofs.YtoipggglmpcjfaaDoor
