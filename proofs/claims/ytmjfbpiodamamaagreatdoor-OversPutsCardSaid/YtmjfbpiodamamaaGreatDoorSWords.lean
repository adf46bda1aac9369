/-
  The reference's Split, Lines, Words and (of layer 2) Same: what each returns; nothing old turns. The reference's Lines and Words, and (of layer 2) Same: what each returns; nothing old turns.
-/
import Derived.Test.YtmjfbpiodamamaaGreatDoorLList
import Derived.Test.YtmjfbpiodamamaaGreatDoorSMath
import Derived.Deep.RegionHeld3
namespace Go.Proofs.YtmjfbpiodamamaaGreatDoor
open Go.RowKit
theorem extOne (s : ByteArray) (k : Nat) (h : k < s.size) : (s.extract k (k + 1)).data.toList = [s[k]] ∧ (s.extract k (k + 1)).size = 1 := by
  have e : (s.extract k (k + 1)).data.toList = [s[k]] := by
    rw [extL, Nat.add_sub_cancel_left, dropC s k h]; rfl
  exact ⟨e, by rw [sizeOf, e]; rfl⟩
def SplTo (c : UInt8) (s : Bs) (k : Nat) (out : List Bs) (u : Bs) : Prop := spl c s = out ++ glue u (spl c (s.drop k))
theorem SplTo.start (c : UInt8) (s : Bs) : SplTo c s 0 [] [] := by unfold SplTo; rw [List.drop_zero, glue_nil (spl_ne _ _)]; rfl
theorem SplTo.cut {c : UInt8} {s : ByteArray} {k : Nat} {out : List Bs} {u : Bs} (h : SplTo c s.data.toList k out u) (hk : k < s.size) (e : s[k] = c) : SplTo c s.data.toList (k + 1) (out ++ [u]) [] := by
  unfold SplTo at *
  rw [h, spl_step c s k hk, if_pos e, glue_nil (spl_ne _ _)]
  simp [glue]
theorem SplTo.go {c : UInt8} {s : ByteArray} {k : Nat} {out : List Bs} {u : Bs} (h : SplTo c s.data.toList k out u) (hk : k < s.size) (e : ¬ s[k] = c) : SplTo c s.data.toList (k + 1) out (u ++ [s[k]]) := by
  unfold SplTo at *
  rw [h, spl_step c s k hk, if_neg e, glue_glue]
theorem SplTo.done {c : UInt8} {s : ByteArray} {out : List Bs} {u : Bs} (h : SplTo c s.data.toList s.size out u) : spl c s.data.toList = out ++ [u] := by
  unfold SplTo at h
  rw [h, dropAll]; simp [spl, glue]
set_option maxRecDepth 100000 in
set_option maxHeartbeats 4000000 in
theorem split_ref6 (s : ByteArray) (hs : s.size ≤ 100000) (c : UInt8) (w : World) :
    Calls Tryz.prog 38 #[.string s, .int .u8 c.toNat] w fun e w' => ∃ v, e = .returned v ∧ OwnT w' w.heap.size v (spl c s.data.toList) ∧ Below w.heap.size w w' := by
  obtain ⟨i0, hi, hz0, hz1, hz2⟩ := info_parts infoT
  have hcc := c.toNat_lt
  go_enter Tryz.func38, Tryz.ntmps38
  go_wp2
  go_loopw [5, 6, 7] (fun o u i wr => ∃ (k : Nat) (out : List Bs) (U : ByteArray), k ≤ s.size ∧ i = .int .i64 k ∧ u = .string U ∧ out.length ≤ k ∧ U.size ≤ k ∧ Hid (SplTo c s.data.toList k out U.data.toList) ∧ Hid (OwnT wr w.heap.size o out) ∧ Hid (Below w.heap.size w wr)) (fun _ _ i _ => s.size - (intOf i).toNat)
  case atStart => exact ⟨0, [], ⟨#[]⟩, by omega, rfl, rfl, Nat.le_refl _, Nat.le_refl _, Lib.hid (SplTo.start _ _), Lib.hid (OwnT.nil _ _), Lib.hid (Below.refl _ _)⟩
  case round =>
    obtain ⟨k, out, U, hk, rfl, rfl, hol, hU, HS, HO, HB⟩ := hrel
    have hsz := HB.out.size
    by_cases hlt : k < s.size
    · have hx := s[k].toNat_lt
      by_cases he : s[k] = c
      · have h1 : ((s[k].toNat : Int) == (c.toNat : Int)) = true := by rw [he]; simp
        have HN := Lib.hid (HS.out.cut hlt he)
        clear he HS
        go_wp2_with (first | (at_builtin; refine wpList_append_own _ rfl _ _ 54 rfl w.heap.size 9 i0 (.string ⟨#[]⟩) 1 16 Tryz.underlying54 hi hz0 hz1 hz2 rfl (by decide) _ _ _ rfl (World.ownsRow.alloc HO.out _) ⟨wr.heap.size, 0, none⟩ 1 1 [.string U] rfl rfl ?c1 ?c2 ?c3 ?c4 ?c5 ?_))
        case c1 =>
          intro j u hj
          match j, hj with
          | 0, hj => simp at hj; subst hj; simp [Addr.add]
        case c2 => intro u hu; simp at hu; subst hu; rfl
        case c3 => unfold maxLen; omega
        case c4 => omega
        case c5 => simp; omega
        · intro v' w1 hown' hgrow _
          have HO' : Hid (OwnT w1 w.heap.size v' (out ++ [U.data.toList])) := Lib.hid (OwnT.app rfl hown')
          have HB' : Hid (Below w.heap.size w w1) := Lib.hid (belowG HB.out HO.out hgrow (Nat.le_refl _) hsz)
          clear hown' hgrow
          go_wp2
          go_roundw
          case rel => exact ⟨k + 1, out ++ [U.data.toList], ⟨#[]⟩, by omega, by go_num, rfl, by simp; omega, Nat.zero_le _, HN, HO', HB'⟩
          case measure => simp [intOf]; omega
      · have h1 : ((s[k].toNat : Int) == (c.toNat : Int)) = false := by
          rw [beq_eq_false_iff_ne]; intro g; exact he (UInt8.toNat_inj.1 (by omega))
        obtain ⟨x1, x2⟩ := extOne s k hlt
        have HN : Hid (SplTo c s.data.toList (k + 1) out (U ++ s.extract k (k + 1)).data.toList) := Lib.hid (by rw [ByteArray.data_append, Array.toList_append, x1]; exact HS.out.go hlt he)
        have hsx : (s.extract k (k + 1)).size ≤ 1 := by omega
        clear he HS x1 x2
        go_wp2
        go_roundw
        case rel => exact ⟨k + 1, out, U ++ s.extract k (k + 1), by omega, by go_num, rfl, by omega, by rw [ByteArray.size_append]; omega, HN, HO, HB⟩
        case measure => simp [intOf]; omega
    · obtain rfl : k = s.size := by omega
      have HN := Lib.hid HS.out.done
      clear hlt HS
      go_wp2_with (first | (at_builtin; refine wpList_append_own _ rfl _ _ 54 rfl w.heap.size 9 i0 (.string ⟨#[]⟩) 1 16 Tryz.underlying54 hi hz0 hz1 hz2 rfl (by decide) _ _ _ rfl (World.ownsRow.alloc HO.out _) ⟨wr.heap.size, 0, none⟩ 1 1 [.string U] rfl rfl ?c1 ?c2 ?c3 ?c4 ?c5 ?_))
      case c1 =>
        intro j u hj
        match j, hj with
        | 0, hj => simp at hj; subst hj; simp [Addr.add]
      case c2 => intro u hu; simp at hu; subst hu; rfl
      case c3 => unfold maxLen; omega
      case c4 => omega
      case c5 => simp; omega
      · intro v' w1 hown' hgrow _
        have HO' : Hid (OwnT w1 w.heap.size v' (spl c s.data.toList)) := Lib.hid (by rw [HN.out]; exact OwnT.app rfl hown')
        have HB' : Hid (Below w.heap.size w w1) := Lib.hid (belowG HB.out HO.out hgrow (Nat.le_refl _) hsz)
        clear hown' hgrow
        go_wp2
        go_ret
        exact ⟨_, rfl, HO'.out, HB'.out⟩
end Go.Proofs.YtmjfbpiodamamaaGreatDoor
namespace Go.Proofs.YtmjfbpiodamamaaGreatDoor
open Go.RowKit
theorem HoldT.cut {w : World} {a : Option Addr} {c n : Nat} {ls : List Bs} (h : HoldT w (.slice a n c) ls) (k : Nat) (hk : k ≤ n) : HoldT w (.slice a k c) (ls.take k) := by
  obtain ⟨a', c', b, o, e, hc, ha, hcell⟩ := h
  simp only [Value.slice.injEq] at e
  obtain ⟨rfl, rfl, rfl⟩ := e
  have hl : (ls.take k).length = k := by rw [List.length_take]; omega
  refine ⟨a, c, b, o, by rw [hl], by omega, fun h0 => ha (by omega), fun j l hj => ?_⟩
  rw [List.getElem?_take] at hj
  split at hj
  · exact hcell j l hj
  · cases hj
theorem getLastAt {ls : List Bs} {n : Nat} (h : ls.length = n + 1) : ls.getLast? = some (ls[n]'(by omega)) := by
  have e : ls.length - 1 = n := by omega
  rw [List.getLast?_eq_getElem?, e]
  exact List.getElem?_eq_getElem _
def LinesPost (s : Bs) (w : World) (e : Ending) (w' : World) : Prop := ∃ v, e = .returned (.tuple #[v, .bool (decide ((spl 10 s).getLast? = some []))]) ∧ HoldT w' v (spl 10 s).dropLast ∧ Below w.heap.size w w'
set_option maxRecDepth 100000 in
set_option maxHeartbeats 4000000 in
theorem lines_ref (s : ByteArray) (hs : s.size ≤ 100000) (w : World) : Calls Tryz.prog 37 #[.string s] w (LinesPost s.data.toList w) := by
  have C := fun w => split_ref6 s hs 10 w
  have hne := spl_ne 10 s.data.toList
  have hln := spl_len 10 s.data.toList
  rw [← sizeOf] at hln
  have HP : Hid (∀ e w' v x, (spl 10 s.data.toList).getLast? = some x → e = .returned (.tuple #[v, .bool (decide (x = []))]) → HoldT w' v (spl 10 s.data.toList).dropLast → Below w.heap.size w w' → LinesPost s.data.toList w e w') := Lib.hid (fun e w' v x hx he h1 h2 => ⟨v, by rw [hx, he]; simp, h1, h2⟩)
  generalize spl 10 s.data.toList = ls at *
  obtain ⟨n, hn⟩ : ∃ n, ls.length = n + 1 := ⟨ls.length - 1, by have := List.length_pos_iff.2 hne; omega⟩
  have hnb : n ≤ 100000 := by omega
  clear hne
  go_enter Tryz.func37, Tryz.ntmps37
  go_wp2_with (first | (go_at_call 38; refine (C _).mono ?_; rintro e w1 ⟨v1, rfl, ho, hb⟩; obtain ⟨a, c, b, o, rfl, hc, ha, hcell⟩ := ho.holds; have HB1 := Lib.hid hb; have HH := Lib.hid ho.holds; clear ho hb; refine Hid.out ?_))
  refine Lib.hid ?_
  obtain ⟨rfl, hbw⟩ := ha (by omega)
  rw [hn] at hc HH
  have hcx := hcell n _ (List.getElem?_eq_getElem (by omega))
  have HX : Hid (ls.getLast? = some ls[n]) := Lib.hid (getLastAt hn)
  have HC : Hid (HoldT w1 (.slice (some ⟨b, o, none⟩) n c) ls.dropLast) := Lib.hid (by rw [List.dropLast_eq_take, hn]; exact HH.out.cut n (by omega))
  obtain ⟨x, hx⟩ : ∃ x : ByteArray, x.data.toList = ls[n] := ⟨⟨(ls[n]).toArray⟩, by simp⟩
  rw [← strOf hx] at hcx
  rw [← hx] at HX
  have he := emptyT x
  have HS := Lib.hid (sizeOf x)
  clear hcell ha HH hx C hn
  by_cases h0 : x.size = 0
  · rw [decide_eq_true h0] at he
    go_wp2
    go_quiet (fail)
    go_wp2
    go_ret2
    exact HP.out _ _ (.slice (some ⟨b, o, none⟩) n c) _ HX.out (by rw [decide_eq_true (List.eq_nil_of_length_eq_zero (by rw [← HS.out]; exact h0))]; rfl) (HC.out.on (belowQ (Below.refl _ _) _)) (belowQ HB1.out _)
  · rw [decide_eq_false h0] at he
    go_wp2
    go_quiet (fail)
    go_wp2
    go_ret2
    exact HP.out _ _ (.slice (some ⟨b, o, none⟩) n c) _ HX.out (by rw [decide_eq_false (fun e => h0 (by rw [HS.out, e]; rfl))]; rfl) (HC.out.on (belowQ (Below.refl _ _) _)) (belowQ HB1.out _)
end Go.Proofs.YtmjfbpiodamamaaGreatDoor
