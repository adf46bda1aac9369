import Derived.Test.YtkbkaeefdhkgdaaGreatDoorPPName
import Derived.Test.YtkbkaeefdhkgdaaGreatDoorPSMath
import Derived.Test.YtkbkaeefdhkgdaaGreatDoorPVPA
set_option maxRecDepth 100000
set_option maxHeartbeats 32000000
namespace Go.Proofs.YtkbkaeefdhkgdaaGreatDoor
section
open Go.RowKit Go.Sort
theorem cls (n : Nat) : (97 ≤ n ∧ n ≤ 122) ∨ (48 ≤ n ∧ n ≤ 57) ∨ (n = 43 ∨ n = 45 ∨ n = 46) ∨ (122 < n ∨ (57 < n ∧ n < 97) ∨ (n < 48 ∧ ¬ n = 43 ∧ ¬ n = 45 ∧ ¬ n = 46)) := by omega
theorem alB_iff (c : UInt8) : alB c = true ↔ (97 ≤ c.toNat ∧ c.toNat ≤ 122) ∨ (48 ≤ c.toNat ∧ c.toNat ≤ 57) := by
 unfold alB; simp only [Bool.or_eq_true, Bool.and_eq_true, decide_eq_true_eq]
theorem markB_iff (c : UInt8) : markB c = true ↔ c.toNat = 43 ∨ c.toNat = 45 ∨ c.toNat = 46 := by
 unfold markB
 simp only [Bool.or_eq_true, beq_iff_eq, nat_of_u8]
 show (c.toNat = 43 ∨ c.toNat = 45) ∨ c.toNat = 46 ↔ _
 omega
theorem inB_iff (c : UInt8) : inB c = true ↔ alB c = true ∨ markB c = true := by unfold inB; rw [Bool.or_eq_true]
theorem inB_no {c : UInt8} (h1 : ¬ alB c = true) (h2 : ¬ markB c = true) : inB c = false := by
 cases h : inB c with
 | false => rfl
 | true => exact absurd ((inB_iff c).1 h) (fun h => h.elim h1 h2)
def NameTo (l : Bs) (k : Nat) : Prop := (l.take k).all inB = true ∧ (0 < k → headB l = true)
theorem nameTo_next {s : ByteArray} {k : Nat} (h : k < s.size) (H : NameTo s.data.toList k) (hi : inB s[k] = true) (h0 : k = 0 → alB s[k] = true) : NameTo s.data.toList (k + 1) := by
 refine ⟨all_next h H.1 hi, fun _ => ?_⟩
 by_cases hk : k = 0
 ·
  subst hk
  have hl := Lib.size_eq s
  have := List.drop_eq_getElem_cons (l := s.data.toList) (i := 0) (by omega)
  rw [List.drop_zero] at this
  rw [this]
  exact h0 rfl
 ·
  exact H.2 (by omega)
theorem name_bad {s : ByteArray} {k : Nat} (h : k < s.size) (hi : inB s[k] = false) : nameB s.data.toList = false := by
 unfold nameB; rw [all_stop h hi, Bool.and_false]
theorem name_bad0 {s : ByteArray} (h : 0 < s.size) (hi : ¬ alB s[0] = true) : nameB s.data.toList = false := by
 have hl := Lib.size_eq s
 have := List.drop_eq_getElem_cons (l := s.data.toList) (i := 0) (by omega)
 rw [List.drop_zero] at this
 have e : headB s.data.toList = false := by
  rw [this]
  cases h : headB (s.data.toList[0] :: List.drop (0 + 1) s.data.toList) with
  | false => rfl
  | true => exact absurd h hi
 unfold nameB; rw [e, Bool.and_false, Bool.false_and]
theorem name_end {s : ByteArray} (H : NameTo s.data.toList s.size) : nameB s.data.toList = (decide (1 ≤ s.size) && decide (s.size ≤ 60)) := by
 have hl := Lib.size_eq s
 unfold nameB
 rw [all_done H.1, ← hl]
 by_cases h : 1 ≤ s.size
 ·
  rw [H.2 h]; simp
 ·
  rw [decide_eq_false h]; simp
theorem name_ref (s : ByteArray) (hs : s.size ≤ 4000) (w : World) : Calls Tryz.prog 58 #[.string s] w fun e w' => e = .returned (.bool (nameB s.data.toList)) ∧ w = w' := by
 obtain ⟨B, HB⟩ : ∃ B, Hid (nameB s.data.toList = B) := ⟨_, rfl⟩
 rw [HB.out]
 go_enter Tryz.func58, Tryz.ntmps58
 go_wp2
 go_loop [3] (fun i => ∃ k : Nat, k ≤ s.size ∧ i = .int .i64 k ∧ Hid (NameTo s.data.toList k)) (fun i => s.size - (intOf i).toNat)
 case atStart => exact ⟨0, by omega, rfl, Lib.hid ⟨by simp, fun h => absurd h (by omega)⟩⟩
 case round =>
  obtain ⟨k, hk, rfl, H⟩ := hrel
  by_cases hlt : k < s.size
  ·
   have hc := s[k].toNat_lt
   rcases cls s[k].toNat with h | h | h | h
   ·
    have HN : Hid (NameTo s.data.toList (k + 1)) := Lib.hid (nameTo_next hlt H.out ((inB_iff _).2 (.inl ((alB_iff _).2 (.inl h)))) (fun _ => (alB_iff _).2 (.inl h)))
    obtain ⟨ha, hb⟩ := h
    go_wp2
    go_round
    case rel => exact ⟨k + 1, by omega, by go_num, HN⟩
    case measure => simp [intOf]; omega
   ·
    have HN : Hid (NameTo s.data.toList (k + 1)) := Lib.hid (nameTo_next hlt H.out ((inB_iff _).2 (.inl ((alB_iff _).2 (.inr h)))) (fun _ => (alB_iff _).2 (.inr h)))
    obtain ⟨ha, hb⟩ := h
    go_wp2
    go_round
    case rel => exact ⟨k + 1, by omega, by go_num, HN⟩
    case measure => simp [intOf]; omega
   ·
    have hm : markB s[k] = true := (markB_iff _).2 h
    have hna : ¬ alB s[k] = true := fun e => by have := (alB_iff _).1 e; omega
    by_cases hk0 : k = 0
    ·
     have HR : Hid (false = B) := Lib.hid (by rw [← HB.out]; exact (name_bad0 (by omega) (by subst hk0; exact hna)).symm)
     have hkb : ((k : Int) == 0) = true := by simp [hk0]
     clear hm hna hk0
     rcases h with h | h | h
     all_goals
      go_wp2
      go_ret
      exact ⟨ret_bool HR.out, rfl⟩
    ·
     have HN : Hid (NameTo s.data.toList (k + 1)) := Lib.hid (nameTo_next hlt H.out ((inB_iff _).2 (.inr hm)) (fun e => absurd e hk0))
     have hkb : ((k : Int) == 0) = false := by simp [hk0]
     clear hm hna
     rcases h with h | h | h
     all_goals
      go_wp2
      go_round
      case rel => exact ⟨k + 1, by omega, by go_num, HN⟩
      case measure => simp [intOf]; omega
   ·
    have HR : Hid (false = B) := Lib.hid (by rw [← HB.out]; exact (name_bad hlt (inB_no (fun e => by have := (alB_iff _).1 e; omega) (fun e => by have := (markB_iff _).1 e; omega))).symm)
    rcases h with h | ⟨h, h'⟩ | ⟨h, h1, h2, h3⟩
    ·
     go_wp2
     go_ret
     exact ⟨ret_bool HR.out, rfl⟩
    ·
     go_wp2
     go_ret
     exact ⟨ret_bool HR.out, rfl⟩
    ·
     have h1' : ((s[k].toNat : Int) == 43) = false := by simp; omega
     have h2' : ((s[k].toNat : Int) == 45) = false := by simp; omega
     have h3' : ((s[k].toNat : Int) == 46) = false := by simp; omega
     go_wp2
     go_ret
     exact ⟨ret_bool HR.out, rfl⟩
  ·
   obtain rfl : k = s.size := by omega
   have HE := Lib.hid ((name_end H.out).symm.trans HB.out)
   clear hlt HB H
   by_cases h1 : 1 ≤ s.size
   ·
    go_wp2
    go_ret
    exact ⟨ret_bool (by rw [← HE.out, decide_eq_true h1, Bool.true_and, Bool.eq_iff_iff]; simp only [decide_eq_true_eq]; omega), rfl⟩
   ·
    go_wp2
    go_ret
    exact ⟨ret_bool (by rw [← HE.out, decide_eq_false h1]; simp), rfl⟩
end
section
open Go.RowKit
theorem extOne (s : ByteArray) (k : Nat) (h : k < s.size) : (s.extract k (k + 1)).data.toList = [s[k]] ∧ (s.extract k (k + 1)).size = 1 := by
 have e : (s.extract k (k + 1)).data.toList = [s[k]] := by
  rw [extL, Nat.add_sub_cancel_left, dropC s k h]; rfl
 exact ⟨e, by rw [sizeOf, e]; rfl⟩
def SplTo (c : UInt8) (s : Bs) (k : Nat) (out : List Bs) (u : Bs) : Prop := spl c s = out ++ glue u (spl c (s.drop k))
theorem SplTo.start (c : UInt8) (s : Bs) : SplTo c s 0 [] [] := by unfold SplTo; rw [List.drop_zero, glue_nil (spl_ne _ _)]; rfl
theorem SplTo.cut {c : UInt8} {s : ByteArray} {k : Nat} {out : List Bs} {u : Bs} (h : SplTo c s.data.toList k out u) (hk : k < s.size) (e : s[k] = c) : SplTo c s.data.toList (k + 1) (out ++ [u]) [] := by
 unfold SplTo at *
 rw [h, spl_step c s k hk, if_pos e, glue_nil (spl_ne _ _)]
 simp [glue]
theorem SplTo.go {c : UInt8} {s : ByteArray} {k : Nat} {out : List Bs} {u : Bs} (h : SplTo c s.data.toList k out u) (hk : k < s.size) (e : ¬ s[k] = c) : SplTo c s.data.toList (k + 1) out (u ++ [s[k]]) := by
 unfold SplTo at *
 rw [h, spl_step c s k hk, if_neg e, glue_glue]
theorem SplTo.done {c : UInt8} {s : ByteArray} {out : List Bs} {u : Bs} (h : SplTo c s.data.toList s.size out u) : spl c s.data.toList = out ++ [u] := by
 unfold SplTo at h
 rw [h, dropAll]; simp [spl, glue]
theorem split_ref6 (s : ByteArray) (hs : s.size ≤ 100000) (c : UInt8) (w : World) :
  Calls Tryz.prog 36 #[.string s, .int .u8 c.toNat] w fun e w' => ∃ v, e = .returned v ∧ OwnT w' w.heap.size v (spl c s.data.toList) ∧ Below w.heap.size w w' := by
 obtain ⟨i0, hi, hz0, hz1, hz2⟩ := info_parts infoT
 have hcc := c.toNat_lt
 go_enter Tryz.func36, Tryz.ntmps36
 go_wp2
 go_loopw [5, 6, 7] (fun o u i wr => ∃ (k : Nat) (out : List Bs) (U : ByteArray), k ≤ s.size ∧ i = .int .i64 k ∧ u = .string U ∧ out.length ≤ k ∧ U.size ≤ k ∧ Hid (SplTo c s.data.toList k out U.data.toList) ∧ Hid (OwnT wr w.heap.size o out) ∧ Hid (Below w.heap.size w wr)) (fun _ _ i _ => s.size - (intOf i).toNat)
 case atStart => exact ⟨0, [], ⟨#[]⟩, by omega, rfl, rfl, Nat.le_refl _, Nat.le_refl _, Lib.hid (SplTo.start _ _), Lib.hid (OwnT.nil _ _), Lib.hid (Below.refl _ _)⟩
 case round =>
  obtain ⟨k, out, U, hk, rfl, rfl, hol, hU, HS, HO, HB⟩ := hrel
  have hsz := HB.out.size
  by_cases hlt : k < s.size
  ·
   have hx := s[k].toNat_lt
   by_cases he : s[k] = c
   ·
    have h1 : ((s[k].toNat : Int) == (c.toNat : Int)) = true := by rw [he]; simp
    have HN := Lib.hid (HS.out.cut hlt he)
    clear he HS
    go_wp2_with (first | (at_builtin; refine wpList_append_own _ rfl _ _ 40 rfl w.heap.size 9 i0 (.string ⟨#[]⟩) 1 16 Tryz.underlying40 hi hz0 hz1 hz2 rfl (by decide) _ _ _ rfl (World.ownsRow.alloc HO.out _) ⟨wr.heap.size, 0, none⟩ 1 1 [.string U] rfl rfl ?c1 ?c2 ?c3 ?c4 ?c5 ?_))
    case c1 =>
     intro j u hj
     match j, hj with
     | 0, hj => simp at hj; subst hj; simp [Addr.add]
    case c2 => intro u hu; simp at hu; subst hu; rfl
    case c3 => unfold maxLen; omega
    case c4 => omega
    case c5 => simp; omega
    ·
     intro v' w1 hown' hgrow _
     have HO' : Hid (OwnT w1 w.heap.size v' (out ++ [U.data.toList])) := Lib.hid (OwnT.app rfl hown')
     have HB' : Hid (Below w.heap.size w w1) := Lib.hid (belowG HB.out HO.out hgrow (Nat.le_refl _) hsz)
     clear hown' hgrow
     go_wp2
     go_roundw
     case rel => exact ⟨k + 1, out ++ [U.data.toList], ⟨#[]⟩, by omega, by go_num, rfl, by simp; omega, Nat.zero_le _, HN, HO', HB'⟩
     case measure => simp [intOf]; omega
   ·
    have h1 : ((s[k].toNat : Int) == (c.toNat : Int)) = false := by
     rw [beq_eq_false_iff_ne]; intro g; exact he (UInt8.toNat_inj.1 (by omega))
    obtain ⟨x1, x2⟩ := extOne s k hlt
    have HN : Hid (SplTo c s.data.toList (k + 1) out (U ++ s.extract k (k + 1)).data.toList) := Lib.hid (by rw [ByteArray.data_append, Array.toList_append, x1]; exact HS.out.go hlt he)
    have hsx : (s.extract k (k + 1)).size ≤ 1 := by omega
    clear he HS x1 x2
    go_wp2
    go_roundw
    case rel => exact ⟨k + 1, out, U ++ s.extract k (k + 1), by omega, by go_num, rfl, by omega, by rw [ByteArray.size_append]; omega, HN, HO, HB⟩
    case measure => simp [intOf]; omega
  ·
   obtain rfl : k = s.size := by omega
   have HN := Lib.hid HS.out.done
   clear hlt HS
   go_wp2_with (first | (at_builtin; refine wpList_append_own _ rfl _ _ 40 rfl w.heap.size 9 i0 (.string ⟨#[]⟩) 1 16 Tryz.underlying40 hi hz0 hz1 hz2 rfl (by decide) _ _ _ rfl (World.ownsRow.alloc HO.out _) ⟨wr.heap.size, 0, none⟩ 1 1 [.string U] rfl rfl ?c1 ?c2 ?c3 ?c4 ?c5 ?_))
   case c1 =>
    intro j u hj
    match j, hj with
    | 0, hj => simp at hj; subst hj; simp [Addr.add]
   case c2 => intro u hu; simp at hu; subst hu; rfl
   case c3 => unfold maxLen; omega
   case c4 => omega
   case c5 => simp; omega
   ·
    intro v' w1 hown' hgrow _
    have HO' : Hid (OwnT w1 w.heap.size v' (spl c s.data.toList)) := Lib.hid (by rw [HN.out]; exact OwnT.app rfl hown')
    have HB' : Hid (Below w.heap.size w w1) := Lib.hid (belowG HB.out HO.out hgrow (Nat.le_refl _) hsz)
    clear hown' hgrow
    go_wp2
    go_ret
    exact ⟨_, rfl, HO'.out, HB'.out⟩
end
section
open Go.RowKit
end
section
open Go.RowKit
theorem HoldT.cut {w : World} {a : Option Addr} {c n : Nat} {ls : List Bs} (h : HoldT w (.slice a n c) ls) (k : Nat) (hk : k ≤ n) : HoldT w (.slice a k c) (ls.take k) := by
 obtain ⟨a', c', b, o, e, hc, ha, hcell⟩ := h
 simp only [Value.slice.injEq] at e
 obtain ⟨rfl, rfl, rfl⟩ := e
 have hl : (ls.take k).length = k := by rw [List.length_take]; omega
 refine ⟨a, c, b, o, by rw [hl], by omega, fun h0 => ha (by omega), fun j l hj => ?_⟩
 rw [List.getElem?_take] at hj
 split at hj
 ·
  exact hcell j l hj
 ·
  cases hj
theorem getLastAt {ls : List Bs} {n : Nat} (h : ls.length = n + 1) : ls.getLast? = some (ls[n]'(by omega)) := by
 have e : ls.length - 1 = n := by omega
 rw [List.getLast?_eq_getElem?, e]
 exact List.getElem?_eq_getElem _
def LinesPost (s : Bs) (w : World) (e : Ending) (w' : World) : Prop := ∃ v, e = .returned (.tuple #[v, .bool (decide ((spl 10 s).getLast? = some []))]) ∧ HoldT w' v (spl 10 s).dropLast ∧ Below w.heap.size w w'
theorem lines_ref (s : ByteArray) (hs : s.size ≤ 100000) (w : World) : Calls Tryz.prog 77 #[.string s] w (LinesPost s.data.toList w) := by
 have C := fun w => split_ref6 s hs 10 w
 have hne := spl_ne 10 s.data.toList
 have hln := spl_len 10 s.data.toList
 rw [← sizeOf] at hln
 have HP : Hid (∀ e w' v x, (spl 10 s.data.toList).getLast? = some x → e = .returned (.tuple #[v, .bool (decide (x = []))]) → HoldT w' v (spl 10 s.data.toList).dropLast → Below w.heap.size w w' → LinesPost s.data.toList w e w') := Lib.hid (fun e w' v x hx he h1 h2 => ⟨v, by rw [hx, he]; simp, h1, h2⟩)
 generalize spl 10 s.data.toList = ls at *
 obtain ⟨n, hn⟩ : ∃ n, ls.length = n + 1 := ⟨ls.length - 1, by have := List.length_pos_iff.2 hne; omega⟩
 have hnb : n ≤ 100000 := by omega
 clear hne
 go_enter Tryz.func77, Tryz.ntmps77
 go_wp2_with (first | (go_at_call 36; refine (C _).mono ?_; rintro e w1 ⟨v1, rfl, ho, hb⟩; obtain ⟨a, c, b, o, rfl, hc, ha, hcell⟩ := ho.holds; have HB1 := Lib.hid hb; have HH := Lib.hid ho.holds; clear ho hb; refine Hid.out ?_))
 refine Lib.hid ?_
 obtain ⟨rfl, hbw⟩ := ha (by omega)
 rw [hn] at hc HH
 have hcx := hcell n _ (List.getElem?_eq_getElem (by omega))
 have HX : Hid (ls.getLast? = some ls[n]) := Lib.hid (getLastAt hn)
 have HC : Hid (HoldT w1 (.slice (some ⟨b, o, none⟩) n c) ls.dropLast) := Lib.hid (by rw [List.dropLast_eq_take, hn]; exact HH.out.cut n (by omega))
 obtain ⟨x, hx⟩ : ∃ x : ByteArray, x.data.toList = ls[n] := ⟨⟨(ls[n]).toArray⟩, by simp⟩
 rw [← strOf hx] at hcx
 rw [← hx] at HX
 have he := emptyT x
 have HS := Lib.hid (sizeOf x)
 clear hcell ha HH hx C hn
 by_cases h0 : x.size = 0
 ·
  rw [decide_eq_true h0] at he
  go_wp2
  go_quiet (fail)
  go_wp2
  go_ret2
  exact HP.out _ _ (.slice (some ⟨b, o, none⟩) n c) _ HX.out (by rw [decide_eq_true (List.eq_nil_of_length_eq_zero (by rw [← HS.out]; exact h0))]; rfl) (HC.out.on (belowQ (Below.refl _ _) _)) (belowQ HB1.out _)
 ·
  rw [decide_eq_false h0] at he
  go_wp2
  go_quiet (fail)
  go_wp2
  go_ret2
  exact HP.out _ _ (.slice (some ⟨b, o, none⟩) n c) _ HX.out (by rw [decide_eq_false (fun e => h0 (by rw [HS.out, e]; rfl))]; rfl) (HC.out.on (belowQ (Below.refl _ _) _)) (belowQ HB1.out _)
end
section
open Go.RowKit
def lineAt (k : Nat) (p : Bs) : Bool := !(decide (k = 0) && decide (p.head? = some 32)) && endB p && !(decide (0 < k) && decide (p = []))
theorem linesB_at : ∀ (ls : List Bs), ls ≠ [] → (linesB ls = true ↔ ∀ (j : Nat) (h : j < ls.length), lineAt j ls[j] = true)
 | [], h => absurd rfl h
 | p :: ps, _ => by
  simp only [linesB, Bool.and_eq_true, Bool.not_eq_true', decide_eq_false_iff_not, List.all_eq_true, decide_eq_true_eq]
  constructor
  ·
   rintro ⟨⟨h1, h2⟩, h3⟩ j hj
   cases j with
   | zero => simp [lineAt, h1, h2]
   | succ j =>
    have hj' : j < ps.length := by simpa using hj
    have := h3 ps[j] (List.getElem_mem hj')
    simp [lineAt, this.1]
    exact this.2
  ·
   intro h
   have h0 := h 0 (by simp)
   simp [lineAt] at h0
   refine ⟨⟨h0.1, h0.2⟩, fun q hq => ?_⟩
   obtain ⟨j, hj, rfl⟩ := List.mem_iff_getElem.1 hq
   have := h (j + 1) (by simp; omega)
   simp [lineAt] at this
   exact ⟨this.1, this.2⟩
theorem linesB_no {ls : List Bs} (hne : ls ≠ []) {j : Nat} (h : j < ls.length) (g : lineAt j ls[j] = false) : linesB ls = false := by
 cases e : linesB ls
 ·
  rfl
 ·
  have := (linesB_at ls hne).1 e j h
  rw [g] at this; cases this
theorem lastB (x : ByteArray) (h2 : x.size - 1 < x.size) : x.data.toList.getLast? = some x[x.size - 1] := by
 have e := sizeOf x
 rw [List.getLast?_eq_getElem?, ← e, List.getElem?_eq_getElem (by rw [← e]; omega)]
 rfl
theorem headB0 (x : ByteArray) (h : 0 < x.size) : x.data.toList.head? = some x[0] := by
 have := dropC x 0 h
 rw [List.drop_zero] at this
 rw [this]; rfl
theorem field_is (n t : Bs) : fieldB (n, t) = (decide (1 ≤ n.length) && decide (n.length ≤ 60) && decide (t.length ≤ 65536) && headUp n && n.all nmB && t.all txB && linesB (spl 10 t)) := rfl
theorem not32 {x : UInt8} (h : ¬ x = 32) : ((x.toNat : Int) == 32) = false := by rw [beq_eq_false_iff_ne]; intro g; exact h (UInt8.toNat_inj.1 (by show x.toNat = 32; omega))
theorem yes32 {x : UInt8} (h : x = 32) : ((x.toNat : Int) == 32) = true := by rw [h]; rfl
theorem field_ref (n t : ByteArray) (hn : n.size ≤ 100000) (ht : t.size ≤ 100000) (w : World) :
  Calls Tryz.prog 51 #[.string n, .string t] w fun e w' => e = .returned (.bool (fieldB (n.data.toList, t.data.toList))) ∧ Below w.heap.size w w' := by
 obtain ⟨R, HR⟩ : ∃ R, Hid (fieldB (n.data.toList, t.data.toList) = R) := ⟨_, rfl⟩
 rw [HR.out]
 have HF := Lib.hid (field_is n.data.toList t.data.toList)
 have hln := sizeOf n
 have hlt := sizeOf t
 have bad : ∀ b : Bool, (b = false → (decide (1 ≤ n.data.toList.length) && decide (n.data.toList.length ≤ 60) && decide (t.data.toList.length ≤ 65536) && headUp n.data.toList && n.data.toList.all nmB && t.data.toList.all txB && linesB (spl 10 t.data.toList)) = false) → b = false → Hid (false = R) := fun b h hb => Lib.hid (by rw [← HR.out, HF.out, h hb])
 have B1 := Lib.hid (bad (decide (1 ≤ n.data.toList.length)) (fun h => by rw [h]; simp only [Bool.false_and]))
 have B2 := Lib.hid (bad (decide (n.data.toList.length ≤ 60)) (fun h => by rw [h]; simp only [Bool.false_and, Bool.and_false]))
 have B3 := Lib.hid (bad (decide (t.data.toList.length ≤ 65536)) (fun h => by rw [h]; simp only [Bool.false_and, Bool.and_false]))
 have B4 := Lib.hid (bad (headUp n.data.toList) (fun h => by rw [h]; simp only [Bool.false_and, Bool.and_false]))
 have B5 := Lib.hid (bad (n.data.toList.all nmB) (fun h => by rw [h]; simp only [Bool.false_and, Bool.and_false]))
 have B6 := Lib.hid (bad (t.data.toList.all txB) (fun h => by rw [h]; simp only [Bool.false_and, Bool.and_false]))
 have B7 := Lib.hid (bad (linesB (spl 10 t.data.toList)) (fun h => by rw [h]; simp only [Bool.and_false]))
 clear bad
 by_cases h1 : n.size < 1
 ·
  have G := B1.out (decide_eq_false (by omega))
  clear HF B1 B2 B3 B4 B5 B6 B7 HR hln hlt
  go_enter Tryz.func51, Tryz.ntmps51
  go_wp2
  go_ret
  exact ⟨retb G.out, Below.refl _ _⟩
 by_cases h2 : 60 < n.size
 ·
  have G := B2.out (decide_eq_false (by omega))
  clear HF B1 B2 B3 B4 B5 B6 B7 HR hln hlt
  go_enter Tryz.func51, Tryz.ntmps51
  go_wp2
  go_ret
  exact ⟨retb G.out, Below.refl _ _⟩
 by_cases h3 : 65536 < t.size
 ·
  have G := B3.out (decide_eq_false (by omega))
  clear HF B1 B2 B3 B4 B5 B6 B7 HR hln hlt
  go_enter Tryz.func51, Tryz.ntmps51
  go_wp2
  go_ret
  exact ⟨retb G.out, Below.refl _ _⟩
 have hn0 : 0 < n.size := by omega
 have hhd : headUp n.data.toList = upB (n[0]'hn0) := by
  have := dropC n 0 hn0
  rw [List.drop_zero] at this
  rw [this]; rfl
 have hx := (n[0]'hn0).toNat_lt
 by_cases h4 : (n[0]'hn0).toNat < 65
 ·
  have G := B4.out (by rw [hhd]; unfold upB; rw [decide_eq_false (by omega)]; rfl)
  clear HF B1 B2 B3 B4 B5 B6 B7 HR hln hlt hhd
  go_enter Tryz.func51, Tryz.ntmps51
  go_wp2
  go_ret
  exact ⟨retb G.out, Below.refl _ _⟩
 by_cases h5 : 90 < (n[0]'hn0).toNat
 ·
  have G := B4.out (by rw [hhd]; unfold upB; rw [decide_eq_false (p := (n[0]'hn0).toNat ≤ 90) (by omega)]; simp)
  clear HF B1 B2 B3 B4 B5 B6 B7 HR hln hlt hhd
  go_enter Tryz.func51, Tryz.ntmps51
  go_wp2
  go_ret
  exact ⟨retb G.out, Below.refl _ _⟩
 have HG : Hid (n.data.toList.all nmB = true → t.data.toList.all txB = true → linesB (spl 10 t.data.toList) = true → true = R) := Lib.hid (fun g1 g2 g3 => by
  rw [← HR.out, HF.out, g1, g2, g3, hhd]
  have : upB (n[0]'hn0) = true := by unfold upB; rw [decide_eq_true (by omega), decide_eq_true (by omega)]; rfl
  rw [this, decide_eq_true (by omega), decide_eq_true (by omega), decide_eq_true (by omega)]; rfl)
 have C1 := fun c w => letter_ref c w
 have C2 := fun c w => digit_ref c w
 have C3 := fun w => split_ref6 t (by omega) 10 w
 clear HF B1 B2 B3 B4 HR hln hlt hhd
 go_enter Tryz.func51, Tryz.ntmps51
 go_wp2
 go_loop [5] (fun i => ∃ k : Nat, k ≤ n.size ∧ i = .int .i64 k ∧ Hid ((n.data.toList.take k).all nmB = true)) (fun i => n.size - (intOf i).toNat)
 case atStart => exact ⟨0, by omega, rfl, Lib.hid (by simp)⟩
 case round =>
  obtain ⟨k, hk, rfl, H⟩ := hrel
  by_cases hlt : k < n.size
  ·
   have D1 := C1 n[k]
   have D2 := C2 n[k]
   have hxk := n[k].toNat_lt
   cases hd1 : ltB n[k]
   ·
    cases hd2 : dgB n[k]
    ·
     by_cases he : n[k].toNat = 45
     ·
      have HN : Hid ((n.data.toList.take (k + 1)).all nmB = true) := Lib.hid (allNx hlt H.out (by unfold nmB; rw [decide_eq_true he]; simp))
      have e1 : ((n[k].toNat : Int) != 45) = false := by rw [he]; rfl
      rw [hd1] at D1
      rw [hd2] at D2
      clear hd1 hd2 he C3 HG B5 B6 B7 C1 C2
      go_wp2_with (first | (go_at_call 97; refine (D1 _).mono ?_; rintro e w1 ⟨rfl, rfl⟩) | (go_at_call 98; refine (D2 _).mono ?_; rintro e w1 ⟨rfl, rfl⟩))
      go_round
      case rel => exact ⟨k + 1, by omega, by go_num, HN⟩
      case measure => simp [intOf]; omega
     ·
      have G := B5.out (allSt hlt (by unfold nmB; rw [hd1, hd2, decide_eq_false he]; rfl))
      have e1 : ((n[k].toNat : Int) != 45) = true := by rw [bne_iff_ne]; omega
      rw [hd1] at D1
      rw [hd2] at D2
      clear hd1 hd2 he C3 HG B5 B6 B7 C1 C2
      go_wp2_with (first | (go_at_call 97; refine (D1 _).mono ?_; rintro e w1 ⟨rfl, rfl⟩) | (go_at_call 98; refine (D2 _).mono ?_; rintro e w1 ⟨rfl, rfl⟩))
      go_ret
      exact ⟨retb G.out, Below.refl _ _⟩
    ·
     have HN : Hid ((n.data.toList.take (k + 1)).all nmB = true) := Lib.hid (allNx hlt H.out (by unfold nmB; rw [hd2]; simp))
     rw [hd1] at D1
     rw [hd2] at D2
     clear hd1 hd2 C3 HG B5 B6 B7 C1 C2
     go_wp2_with (first | (go_at_call 97; refine (D1 _).mono ?_; rintro e w1 ⟨rfl, rfl⟩) | (go_at_call 98; refine (D2 _).mono ?_; rintro e w1 ⟨rfl, rfl⟩))
     go_round
     case rel => exact ⟨k + 1, by omega, by go_num, HN⟩
     case measure => simp [intOf]; omega
   ·
    have HN : Hid ((n.data.toList.take (k + 1)).all nmB = true) := Lib.hid (allNx hlt H.out (by unfold nmB; rw [hd1]; simp))
    rw [hd1] at D1
    clear hd1 D2 C3 HG B5 B6 B7 C1 C2
    go_wp2_with (first | (go_at_call 97; refine (D1 _).mono ?_; rintro e w1 ⟨rfl, rfl⟩))
    go_round
    case rel => exact ⟨k + 1, by omega, by go_num, HN⟩
    case measure => simp [intOf]; omega
  ·
   obtain rfl : k = n.size := by omega
   have HA := Lib.hid (allDn H.out)
   clear hlt C1 C2 H B5
   go_wp2
   go_loop [6] (fun i => ∃ k : Nat, k ≤ t.size ∧ i = .int .i64 k ∧ Hid ((t.data.toList.take k).all txB = true)) (fun i => t.size - (intOf i).toNat)
   case atStart => exact ⟨0, by omega, rfl, Lib.hid (by simp)⟩
   case round =>
    obtain ⟨k, hk, rfl, H⟩ := hrel
    by_cases hlt : k < t.size
    ·
     have hxk := t[k].toNat_lt
     by_cases he : t[k].toNat = 10
     ·
      have HN : Hid ((t.data.toList.take (k + 1)).all txB = true) := Lib.hid (allNx hlt H.out (by unfold txB; rw [decide_eq_true he]; rfl))
      have e1 : ((t[k].toNat : Int) != 10) = false := by rw [he]; rfl
      clear he C3 HG B6 B7
      go_wp2
      go_round
      case rel => exact ⟨k + 1, by omega, by go_num, HN⟩
      case measure => simp [intOf]; omega
     ·
      have e1 : ((t[k].toNat : Int) != 10) = true := by rw [bne_iff_ne]; omega
      by_cases h32 : t[k].toNat < 32
      ·
       have G := B6.out (allSt hlt (by unfold txB; rw [decide_eq_false he, decide_eq_false (p := 32 ≤ t[k].toNat) (by omega)]; rfl))
       clear he C3 HG B6 B7
       go_wp2
       go_ret
       exact ⟨retb G.out, Below.refl _ _⟩
      ·
       by_cases h126 : 126 < t[k].toNat
       ·
        have G := B6.out (allSt hlt (by unfold txB; rw [decide_eq_false he, decide_eq_false (p := t[k].toNat ≤ 126) (by omega)]; simp))
        clear he C3 HG B6 B7
        go_wp2
        go_ret
        exact ⟨retb G.out, Below.refl _ _⟩
       ·
        have HN : Hid ((t.data.toList.take (k + 1)).all txB = true) := Lib.hid (allNx hlt H.out (by unfold txB; rw [decide_eq_true (p := 32 ≤ t[k].toNat) (by omega), decide_eq_true (p := t[k].toNat ≤ 126) (by omega)]; simp))
        clear he C3 HG B6 B7
        go_wp2
        go_round
        case rel => exact ⟨k + 1, by omega, by go_num, HN⟩
        case measure => simp [intOf]; omega
    ·
     obtain rfl : k = t.size := by omega
     have HT := Lib.hid (HG.out HA.out (allDn H.out))
     clear hlt H HG HA B6
     have hne := spl_ne 10 t.data.toList
     have hlen := spl_len 10 t.data.toList
     rw [← sizeOf] at hlen
     have hsz : ∀ (x : ByteArray), x.data.toList ∈ spl 10 t.data.toList → x.size ≤ 100000 := fun x hx => by have := spl_piece 10 _ _ hx; rw [← sizeOf, ← sizeOf] at this; omega
     have HSZ := Lib.hid hsz
     have HNE := Lib.hid hne
     clear hsz hne
     generalize spl 10 t.data.toList = ls at *
     go_wp2_with (first | (go_at_call 36; refine (C3 _).mono ?_; rintro e w1 ⟨v1, rfl, ho, hb⟩; obtain ⟨a, c, b, o, rfl, hc, ha, hcell⟩ := ho.holds; have HB1 := Lib.hid hb; have HL := Lib.hid hcell; clear ho hb hcell C3; refine Hid.out ?_))
     refine Lib.hid ?_
     generalize hN : ls.length = m at *
     go_wp2
     go_loop [8] (fun i => ∃ k : Nat, k ≤ m ∧ i = .int .i64 k ∧ Hid (∀ (j : Nat) (h : j < ls.length), j < k → lineAt j ls[j] = true)) (fun i => m - (intOf i).toNat)
     case atStart => exact ⟨0, by omega, rfl, Lib.hid (fun j h g => by omega)⟩
     case round =>
      obtain ⟨k, hk, rfl, H⟩ := hrel
      by_cases hlt : k < m
      ·
       obtain ⟨rfl, hbw⟩ := ha (by omega)
       obtain ⟨x, hx, hcx⟩ : ∃ x : ByteArray, x.data.toList = ls[k] ∧ w1.cell? ⟨b, o + k, none⟩ = some (.string x) := ⟨⟨(ls[k]).toArray⟩, by simp, HL.out k _ (List.getElem?_eq_getElem (by omega))⟩
       have hxs : x.size ≤ 100000 := HSZ.out x (by rw [hx]; exact List.getElem_mem _)
       have hxe := sizeOf x
       have good : lineAt k ls[k] = true → Hid (∀ (j : Nat) (h : j < ls.length), j < k + 1 → lineAt j ls[j] = true) := fun g => Lib.hid (fun j h hj => by
        by_cases e : j = k
        ·
         subst e; exact g
        ·
         exact H.out j h (by omega))
       have bad : lineAt k ls[k] = false → Hid (false = R) := fun g => B7.out (linesB_no HNE.out (by omega) g)
       rw [← hx] at good bad
       clear hx H
       by_cases h0 : x.size = 0
       ·
        have hnil : x.data.toList = [] := List.eq_nil_of_length_eq_zero (by rw [← hxe]; exact h0)
        rw [hnil] at good bad
        have e3 : ((x.size : Int) == 0) = true := by simp [h0]
        by_cases hk0 : k = 0
        ·
         subst hk0
         simp only [Nat.add_zero] at hcx
         have HN := good (by decide)
         clear good bad hnil hxe
         go_wp2
         go_round
         case rel => exact ⟨1, by omega, rfl, HN⟩
         case measure => simp [intOf]; omega
        ·
         have G := bad (by unfold lineAt; simp; exact fun _ => by omega)
         have e4 : ((k : Int) == 0) = false := by rw [beq_eq_false_iff_ne]; omega
         have e5 : 0 < k := by omega
         clear good bad hnil hxe
         go_wp2
         go_ret
         exact ⟨retb G.out, HB1.out⟩
       ·
        have e0 : 0 < x.size := by omega
        have e1 : x.size - 1 < x.size := by omega
        have hl := lastB x e1
        have hh := headB0 x e0
        have hnn : x.data.toList ≠ [] := fun e => h0 (by rw [hxe, e]; rfl)
        have e3 : ((x.size : Int) == 0) = false := by rw [beq_eq_false_iff_ne]; omega
        have hb0 := (x[0]'e0).toNat_lt
        have hb1 := (x[x.size - 1]'e1).toNat_lt
        by_cases hk0 : k = 0
        ·
         subst hk0
         simp only [Nat.add_zero] at hcx
         by_cases g0 : (x[0]'e0) = 32
         ·
          have G := bad (by unfold lineAt; rw [hh, g0]; simp)
          have e6 := yes32 g0
          clear good bad hl hh hnn hxe g0
          go_wp2
          go_ret
          exact ⟨retb G.out, HB1.out⟩
         ·
          have e6 := not32 g0
          by_cases g1 : (x[x.size - 1]'e1) = 32
          ·
           have G := bad (by unfold lineAt endB; rw [hl, g1]; simp)
           have e7 := yes32 g1
           clear good bad hl hh hnn hxe g0 g1
           go_wp2
           go_ret
           exact ⟨retb G.out, HB1.out⟩
          ·
           have HN := good (by unfold lineAt endB; rw [hl, hh]; simp [g0, g1])
           have e7 := not32 g1
           clear good bad hl hh hnn hxe g0 g1
           go_wp2
           go_round
           case rel => exact ⟨1, by omega, rfl, HN⟩
           case measure => simp [intOf]; omega
        ·
         have e4 : ((k : Int) == 0) = false := by rw [beq_eq_false_iff_ne]; omega
         have e5 : 0 < k := by omega
         by_cases g1 : (x[x.size - 1]'e1) = 32
         ·
          have G := bad (by unfold lineAt endB; rw [hl, g1]; simp)
          have e7 := yes32 g1
          clear good bad hl hh hnn hxe g1
          go_wp2
          go_ret
          exact ⟨retb G.out, HB1.out⟩
         ·
          have HN := good (by unfold lineAt endB; rw [hl]; simp [g1, hk0, hnn])
          have e7 := not32 g1
          clear good bad hl hh hnn hxe g1
          go_wp2
          go_round
          case rel => exact ⟨k + 1, by omega, by go_num, HN⟩
          case measure => simp [intOf]; omega
      ·
       obtain rfl : k = m := by omega
       have HR' : Hid (true = R) := Lib.hid (HT.out ((linesB_at ls HNE.out).2 (fun j h => H.out j h (by omega))))
       clear hlt
       go_wp2
       go_ret
       exact ⟨retb HR'.out, HB1.out⟩
end
end Go.Proofs.YtkbkaeefdhkgdaaGreatDoor
