/-
  path's selected: what is kept of a list of texts, in a slice of the call's own; nothing old turns.
-/
import Derived.Test.YtolpcnhgmmnmcaaGreatDoorPList
namespace Go.Proofs.YtolpcnhgmmnmcaaGreatDoor
open Go.RowKit Go.Sort
theorem take_filter (ls : List Bs) (p : Bs → Bool) (k : Nat) (h : k < ls.length) : (ls.take (k + 1)).filter p = (ls.take k).filter p ++ (if p ls[k] then [ls[k]] else []) := by
  rw [List.take_add_one, List.getElem?_eq_getElem h, List.filter_append]
  congr 1
  by_cases hp : p ls[k] <;> simp [hp]
theorem filter_len (ls : List Bs) (p : Bs → Bool) (k : Nat) : ((ls.take k).filter p).length ≤ k := Nat.le_trans (List.length_filter_le _ _) (List.length_take_le _ _)
set_option maxHeartbeats 1600000 in
theorem sel_empty (v : Value) (ls : List Bs) (hn : ls.length ≤ 5000) (w : World) (h : Holds' w v ls) :
    Calls Tryz.prog 124 #[v, .func (.func 127) #[] #[]] w fun e w' => ∃ v', e = .returned v' ∧ OwnS w' w.heap.size v' (ls.filter (fun l => decide (l ≠ []))) ∧ Below w.heap.size w w' := by
  obtain ⟨i0, hi, hz0, hz1, hz2⟩ := info_parts infoS
  obtain ⟨a, c, b, o, rfl, hc, ha, hcell⟩ := h
  generalize hN : ls.length = n at *
  generalize hP : (fun l : Bs => decide (l ≠ [])) = P at *
  have C := fun x w => nonempty_any x w
  go_enter Tryz.func124, Tryz.ntmps124
  go_wp2
  go_loopw [5, 10] (fun u i wr => ∃ k : Nat, k ≤ n ∧ i = .int .i64 k ∧ OwnS wr w.heap.size u ((ls.take k).filter P) ∧ Below w.heap.size w wr) (fun _ i _ => n - (intOf i).toNat)
  case atStart => exact ⟨0, Nat.zero_le _, rfl, by simpa using OwnS.nil _ _, Below.refl _ _⟩
  case round =>
    obtain ⟨k, hk, rfl, hown, hnx⟩ := hrel
    by_cases hlt : k < n
    · obtain ⟨rfl, hbw⟩ := ha (by omega)
      obtain ⟨x, hx, hcx⟩ : ∃ x : ByteArray, x.data.toList = ls[k] ∧ wr.cell? ⟨b, o + k, none⟩ = some (.string x) := ⟨⟨(ls[k]).toArray⟩, by simp, (hnx.cell (p := ⟨b, o + k, none⟩) hbw).trans (hcell k _ (List.getElem?_eq_getElem (by omega)))⟩
      have hlen := filter_len ls P k
      have hnxt := take_filter ls P k (by omega)
      have hpk : P ls[k] = decide (x.data.toList ≠ []) := by rw [← hP, hx]
      have HS := Lib.hid (And.intro hnxt (And.intro hpk hx))
      have HO := Lib.hid hown
      have HX := Lib.hid hnx
      have hsz := hnx.size
      have Cx := C x
      clear hnxt hpk hx hown hnx hcell ha C
      by_cases hp : x.data.toList ≠ []
      · simp only [decide_eq_true hp] at Cx
        have e := HS.out.1
        rw [HS.out.2.1, decide_eq_true hp, if_pos rfl] at e
        have HE := Lib.hid e
        clear e hp
        go_wp2_with (first
          | (go_at_call 127; refine (Cx _).mono ?_; rintro e w1 ⟨rfl, rfl⟩)
          | (at_builtin; refine wpList_append_own _ rfl _ _ 25 rfl w.heap.size 9 i0 (.string ⟨#[]⟩) 1 16 Tryz.underlying25 hi hz0 hz1 hz2 rfl (by decide) _ _ _ rfl (World.ownsRow.alloc HO.out _) ⟨wr.heap.size, 0, none⟩ 1 1 [.string x] rfl rfl ?c1 ?c2 ?c3 ?c4 ?c5 ?_))
        case c1 =>
          intro j u hj
          match j, hj with
          | 0, hj => simp at hj; subst hj; simp [Addr.add]
        case c2 => intro u hu; simp at hu; subst hu; rfl
        case c3 => unfold maxLen; omega
        case c4 => omega
        case c5 => simp; omega
        · intro v' w1 hown' hgrow _
          have HO' : Hid (OwnS w1 w.heap.size v' ((ls.take (k + 1)).filter P)) := Lib.hid (by rw [HE.out]; exact OwnS.app HS.out.2.2 hown')
          have HB' : Hid (Below w.heap.size w w1) := Lib.hid (below_grown HX.out HO.out hgrow (Nat.le_refl _) hsz)
          clear hown' hgrow
          go_wp2
          go_roundw
          case rel => exact ⟨k + 1, by omega, by go_num, HO'.out, HB'.out⟩
          case measure => simp [intOf]; omega
      · simp only [decide_eq_false hp] at Cx
        have e := HS.out.1
        rw [HS.out.2.1, decide_eq_false hp, if_neg (by simp), List.append_nil] at e
        have HE := Lib.hid e
        clear e hp
        go_wp2_with (go_at_call 127; refine (Cx _).mono ?_; rintro e w1 ⟨rfl, rfl⟩)
        go_roundw
        case rel => exact ⟨k + 1, by omega, by go_num, by rw [HE.out]; exact HO.out, HX.out⟩
        case measure => simp [intOf]; omega
    · obtain rfl : k = n := by omega
      rw [List.take_of_length_le (by omega)] at hown
      have HO := Lib.hid hown
      have HX := Lib.hid hnx
      clear hown hnx hlt ha hcell C
      go_wp2
      go_ret
      exact ⟨_, rfl, HO.out, HX.out⟩
set_option maxHeartbeats 1600000 in
theorem sel_dot (v : Value) (ls : List Bs) (hn : ls.length ≤ 5000) (w : World) (h : Holds' w v ls) :
    Calls Tryz.prog 124 #[v, .func (.func 125) #[] #[]] w fun e w' => ∃ v', e = .returned v' ∧ OwnS w' w.heap.size v' (ls.filter (fun l => decide (l ≠ [46]))) ∧ Below w.heap.size w w' := by
  obtain ⟨i0, hi, hz0, hz1, hz2⟩ := info_parts infoS
  obtain ⟨a, c, b, o, rfl, hc, ha, hcell⟩ := h
  generalize hN : ls.length = n at *
  generalize hP : (fun l : Bs => decide (l ≠ [46])) = P at *
  have C := fun x w => nodot_any x w
  go_enter Tryz.func124, Tryz.ntmps124
  go_wp2
  go_loopw [5, 10] (fun u i wr => ∃ k : Nat, k ≤ n ∧ i = .int .i64 k ∧ OwnS wr w.heap.size u ((ls.take k).filter P) ∧ Below w.heap.size w wr) (fun _ i _ => n - (intOf i).toNat)
  case atStart => exact ⟨0, Nat.zero_le _, rfl, by simpa using OwnS.nil _ _, Below.refl _ _⟩
  case round =>
    obtain ⟨k, hk, rfl, hown, hnx⟩ := hrel
    by_cases hlt : k < n
    · obtain ⟨rfl, hbw⟩ := ha (by omega)
      obtain ⟨x, hx, hcx⟩ : ∃ x : ByteArray, x.data.toList = ls[k] ∧ wr.cell? ⟨b, o + k, none⟩ = some (.string x) := ⟨⟨(ls[k]).toArray⟩, by simp, (hnx.cell (p := ⟨b, o + k, none⟩) hbw).trans (hcell k _ (List.getElem?_eq_getElem (by omega)))⟩
      have hlen := filter_len ls P k
      have hnxt := take_filter ls P k (by omega)
      have hpk : P ls[k] = decide (x.data.toList ≠ [46]) := by rw [← hP, hx]
      have HS := Lib.hid (And.intro hnxt (And.intro hpk hx))
      have HO := Lib.hid hown
      have HX := Lib.hid hnx
      have hsz := hnx.size
      have Cx := C x
      clear hnxt hpk hx hown hnx hcell ha C
      by_cases hp : x.data.toList ≠ [46]
      · simp only [decide_eq_true hp] at Cx
        have e := HS.out.1
        rw [HS.out.2.1, decide_eq_true hp, if_pos rfl] at e
        have HE := Lib.hid e
        clear e hp
        go_wp2_with (first
          | (go_at_call 125; refine (Cx _).mono ?_; rintro e w1 ⟨rfl, rfl⟩)
          | (at_builtin; refine wpList_append_own _ rfl _ _ 25 rfl w.heap.size 9 i0 (.string ⟨#[]⟩) 1 16 Tryz.underlying25 hi hz0 hz1 hz2 rfl (by decide) _ _ _ rfl (World.ownsRow.alloc HO.out _) ⟨wr.heap.size, 0, none⟩ 1 1 [.string x] rfl rfl ?c1 ?c2 ?c3 ?c4 ?c5 ?_))
        case c1 =>
          intro j u hj
          match j, hj with
          | 0, hj => simp at hj; subst hj; simp [Addr.add]
        case c2 => intro u hu; simp at hu; subst hu; rfl
        case c3 => unfold maxLen; omega
        case c4 => omega
        case c5 => simp; omega
        · intro v' w1 hown' hgrow _
          have HO' : Hid (OwnS w1 w.heap.size v' ((ls.take (k + 1)).filter P)) := Lib.hid (by rw [HE.out]; exact OwnS.app HS.out.2.2 hown')
          have HB' : Hid (Below w.heap.size w w1) := Lib.hid (below_grown HX.out HO.out hgrow (Nat.le_refl _) hsz)
          clear hown' hgrow
          go_wp2
          go_roundw
          case rel => exact ⟨k + 1, by omega, by go_num, HO'.out, HB'.out⟩
          case measure => simp [intOf]; omega
      · simp only [decide_eq_false hp] at Cx
        have e := HS.out.1
        rw [HS.out.2.1, decide_eq_false hp, if_neg (by simp), List.append_nil] at e
        have HE := Lib.hid e
        clear e hp
        go_wp2_with (go_at_call 125; refine (Cx _).mono ?_; rintro e w1 ⟨rfl, rfl⟩)
        go_roundw
        case rel => exact ⟨k + 1, by omega, by go_num, by rw [HE.out]; exact HO.out, HX.out⟩
        case measure => simp [intOf]; omega
    · obtain rfl : k = n := by omega
      rw [List.take_of_length_le (by omega)] at hown
      have HO := Lib.hid hown
      have HX := Lib.hid hnx
      clear hown hnx hlt ha hcell C
      go_wp2
      go_ret
      exact ⟨_, rfl, HO.out, HX.out⟩
end Go.Proofs.YtolpcnhgmmnmcaaGreatDoor
