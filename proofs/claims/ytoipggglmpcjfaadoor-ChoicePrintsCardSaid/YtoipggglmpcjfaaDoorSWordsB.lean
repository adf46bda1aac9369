/-
  The reference's Words, and (of layer 2) Same: what each returns; nothing old turns.
-/
import Derived.Test.YtoipggglmpcjfaaDoorSWords
namespace Go.Proofs.YtoipggglmpcjfaaDoor
open Go.RowKit
set_option maxRecDepth 100000 in
set_option maxHeartbeats 4000000 in
theorem words_ref6 (s : ByteArray) (hs : s.size ≤ 100000) (w : World) :
    Calls Tryd.prog 29 #[.string s] w fun e w' => ∃ v, e = .returned v ∧ HoldT w' v (wordsL s.data.toList) ∧ Below w.heap.size w w' := by
  obtain ⟨i0, hi, hz0, hz1, hz2⟩ := info_parts infoT
  have C := fun w => split_ref6 s hs 32 w
  have hln := spl_len 32 s.data.toList
  rw [← sizeOf] at hln
  unfold wordsL
  generalize spl 32 s.data.toList = ls at *
  generalize hP : (fun x : Bs => decide (x ≠ [])) = P at *
  go_enter Tryd.func29, Tryd.ntmps29
  go_wp2_with (first | (go_at_call 42; refine (C _).mono ?_; rintro e w1 ⟨v1, rfl, ho, hb⟩; obtain ⟨a, c, b, o, rfl, hc, ha, hcell⟩ := ho.holds; have HB1 := Lib.hid hb; clear ho hb; refine Hid.out ?_))
  refine Lib.hid ?_
  have hsz1 := HB1.out.size
  have HL := Lib.hid hcell
  generalize hN : ls.length = n at *
  clear hcell C
  go_wp2
  go_loopw [3, 5] (fun u i wr => ∃ k : Nat, k ≤ n ∧ i = .int .i64 k ∧ Hid (OwnT wr w1.heap.size u ((ls.take k).filter P)) ∧ Hid (Below w1.heap.size w1 wr)) (fun _ i _ => n - (intOf i).toNat)
  case atStart => exact ⟨0, by omega, rfl, Lib.hid (by simpa using OwnT.nil _ _), Lib.hid (Below.refl _ _)⟩
  case round =>
    obtain ⟨k, hk, rfl, HO, HB⟩ := hrel
    have hsz := HB.out.size
    by_cases hlt : k < n
    · obtain ⟨rfl, hbw⟩ := ha (by omega)
      obtain ⟨x, hx, hcx⟩ : ∃ x : ByteArray, x.data.toList = ls[k] ∧ wr.cell? ⟨b, o + k, none⟩ = some (.string x) := ⟨⟨(ls[k]).toArray⟩, by simp, (HB.out.cell (p := ⟨b, o + k, none⟩) hbw).trans (HL.out k _ (List.getElem?_eq_getElem (by omega)))⟩
      have hlen : ((ls.take k).filter P).length ≤ k := Nat.le_trans (List.length_filter_le _ _) (List.length_take_le _ _)
      have hnx : (ls.take (k + 1)).filter P = (ls.take k).filter P ++ (if P ls[k] = true then [ls[k]] else []) := by
        rw [List.take_add_one, List.getElem?_eq_getElem (by omega), List.filter_append]
        congr 1
        by_cases hp : P ls[k] = true <;> simp [hp]
      have he := emptyT x
      have hsx := sizeOf x
      by_cases h0 : x.size = 0
      · rw [decide_eq_true h0] at he
        have hpk : P ls[k] = false := by rw [← hP, ← hx]; simp [List.eq_nil_of_length_eq_zero (hsx.symm.trans h0)]
        rw [hpk, if_neg (by simp), List.append_nil] at hnx
        have HO' : Hid (OwnT wr w1.heap.size _ ((ls.take (k + 1)).filter P)) := Lib.hid (by rw [hnx]; exact HO.out)
        clear hnx hpk hx hsx h0
        go_wp2
        go_roundw
        case rel => exact ⟨k + 1, by omega, by go_num, HO', HB⟩
        case measure => simp [intOf]; omega
      · rw [decide_eq_false h0] at he
        have hpk : P ls[k] = true := by
          rw [← hP, ← hx]
          simp only [ne_eq, decide_eq_true_eq]
          intro g; rw [g] at hsx; exact h0 hsx
        rw [hpk, if_pos rfl, ← hx] at hnx
        have HE := Lib.hid hnx
        clear hnx hpk hx hsx h0
        go_wp2_with (first | (at_builtin; refine wpList_append_own _ rfl _ _ 51 rfl w1.heap.size 9 i0 (.string ⟨#[]⟩) 1 16 Tryd.underlying51 hi hz0 hz1 hz2 rfl (by decide) _ _ _ rfl (World.ownsRow.alloc HO.out _) ⟨wr.heap.size, 0, none⟩ 1 1 [.string x] rfl rfl ?c1 ?c2 ?c3 ?c4 ?c5 ?_))
        case c2 => rfl
        case c3 => unfold maxLen; omega
        case c4 => omega
        case c5 => omega
        · intro v' w2 hown' hgrow _
          have HO' : Hid (OwnT w2 w1.heap.size v' ((ls.take (k + 1)).filter P)) := Lib.hid (by rw [HE.out]; exact OwnT.app rfl hown')
          have HB' : Hid (Below w1.heap.size w1 w2) := Lib.hid (belowG HB.out HO.out hgrow (Nat.le_refl _) hsz)
          clear hown' hgrow
          go_wp2
          go_roundw
          case rel => exact ⟨k + 1, by omega, by go_num, HO', HB'⟩
          case measure => simp [intOf]; omega
    · obtain rfl : k = n := by omega
      have HF : Hid (HoldT wr _ (ls.filter P)) := Lib.hid (by have := HO.out; rw [List.take_of_length_le (by omega)] at this; exact this.holds)
      clear hlt ha
      go_wp2
      go_ret
      exact ⟨_, rfl, HF.out, HB1.out.trans (HB.out.mono hsz1)⟩
end Go.Proofs.YtoipggglmpcjfaaDoor
