/-
  The reference's Has and Sorted: whether a text is in a list; a list's texts rising, each once.
-/
import Derived.Test.YtkcamfcjkjiijaaGreatDoorPPSorted2
import Derived.Test.YtkcamfcjkjiijaaGreatDoorPPSortMath
import Derived.Deep.QuietTactic
import Derived.BigQuiet
import Derived.WalkLawsBesides
namespace Go.Proofs.YtkcamfcjkjiijaaGreatDoor
open Go.RowKit Go.Sort
theorem take_mem_next (ls : List Bs) (k : Nat) (h : k < ls.length) (x : Bs) : x ∈ ls.take (k + 1) ↔ x ∈ ls.take k ∨ ls[k] = x := by
  rw [List.take_add_one, List.getElem?_eq_getElem h, List.mem_append]
  simp [eq_comm]
theorem eq_text (x y : ByteArray) : (x.toList == y.toList) = decide (x.data.toList = y.data.toList) := by
  rw [ByteArray.toList_eq, ByteArray.toList_eq]
  by_cases h : x.data.toList = y.data.toList
  · simp [h]
  · rw [decide_eq_false h]; simpa using h
set_option maxHeartbeats 1600000 in
theorem has_any (v : Value) (ls : List Bs) (hn : ls.length ≤ 5000) (x : ByteArray) (w : World) (h : Holds' w v ls) :
    Calls Tryz.prog 31 #[v, .string x] w fun e w' => e = .returned (.bool (decide (x.data.toList ∈ ls))) ∧ w' = w := by
  obtain ⟨a, c, b, o, rfl, hc, ha, hcell⟩ := h
  generalize hN : ls.length = n at *
  go_enter Tryz.func31, Tryz.ntmps31
  go_wp2
  go_loop [5] (fun i => ∃ k : Nat, k ≤ n ∧ i = .int .i64 k ∧ Hid (x.data.toList ∉ ls.take k)) (fun i => n - (intOf i).toNat)
  case atStart => exact ⟨0, Nat.zero_le _, rfl, Lib.hid (by simp)⟩
  case round =>
    obtain ⟨k, hk, rfl, HK⟩ := hrel
    by_cases hlt : k < n
    · obtain ⟨rfl, hbw⟩ := ha (by omega)
      obtain ⟨y, hy, hcx⟩ : ∃ y : ByteArray, y.data.toList = ls[k] ∧ w.cell? ⟨b, o + k, none⟩ = some (.string y) := ⟨⟨(ls[k]).toArray⟩, by simp, hcell k _ (List.getElem?_eq_getElem (by omega))⟩
      have hm := take_mem_next ls k (by omega) x.data.toList
      have heq := eq_text y x
      by_cases he : y.data.toList = x.data.toList
      · have h1 : (y.toList == x.toList) = true := by rw [heq, decide_eq_true he]
        have HT : Hid (x.data.toList ∈ ls) := Lib.hid (List.mem_of_mem_take (hm.2 (.inr (hy.symm.trans he))))
        clear hm heq he hy hcell ha
        go_wp2
        go_ret
        exact ⟨by rw [decide_eq_true HT.out]; rfl, rfl⟩
      · have h1 : (y.toList == x.toList) = false := by rw [heq, decide_eq_false he]
        have HT : Hid (x.data.toList ∉ ls.take (k + 1)) := Lib.hid (fun g => by
          rcases hm.1 g with g | g
          · exact HK.out g
          · exact he (hy.trans g))
        clear hm heq he hy hcell ha
        go_wp2
        go_round
        case rel => exact ⟨k + 1, by omega, by go_num, HT⟩
        case measure => simp [intOf]; omega
    · obtain rfl : k = n := by omega
      have HT : Hid (x.data.toList ∉ ls) := Lib.hid (by have := HK.out; rwa [List.take_of_length_le (by omega)] at this)
      clear ha hcell hlt
      go_wp2
      go_ret
      exact ⟨by rw [decide_eq_false HT.out]; rfl, rfl⟩
theorem below_drewN' {B : Nat} {a w : World} (h : Below B a w) (n : Nat) : Below B a (w.drewN n) := ⟨h.os, h.tape, h.output, h.size, h.block⟩
theorem less_list : ∀ (x y : Bs), Op.bytesLess x y = decide (x < y)
  | x, [] => by simp [Op.bytesLess]
  | [], b :: y => by simp [Op.bytesLess]
  | a :: x, b :: y => by
    rw [Op.bytesLess, less_list x y, Bool.eq_iff_iff]
    simp [List.cons_lt_cons_iff]
theorem less_text (x y : ByteArray) : Op.bytesLess x.toList y.toList = decide (x.data.toList < y.data.toList) := by
  rw [ByteArray.toList_eq, ByteArray.toList_eq]; exact less_list _ _
set_option maxRecDepth 100000 in
set_option maxHeartbeats 4000000 in
theorem sorted_ref (v : Value) (ls : List Bs) (hn : ls.length ≤ 5000) (w : World) (h : Holds' w v ls) :
    Calls Tryz.prog 56 #[v] w fun e w' => ∃ v', e = .returned v' ∧ OwnS w' w.heap.size v' (srt ls) ∧ Below w.heap.size w w' := by
  obtain ⟨i0, hi, hz0, hz1, hz2⟩ := info_parts infoS
  obtain ⟨a, c, b, o, rfl, hc, ha, hcell⟩ := h
  generalize hN : ls.length = n at *
  go_enter Tryz.func56, Tryz.ntmps56
  go_wp2
  go_loopw [3, 4] (fun u i wr => ∃ (k : Nat) (out : List Bs), k ≤ n ∧ i = .int .i64 k ∧ out.length ≤ k ∧ Hid (Sel ls out k) ∧ Hid (OwnS wr w.heap.size u out) ∧ Hid (Below w.heap.size w wr)) (fun _ i _ => n - (intOf i).toNat)
  case atStart => exact ⟨0, [], Nat.zero_le _, rfl, Nat.le_refl _, Lib.hid (Sel.start ls), Lib.hid (OwnS.nil _ _), Lib.hid (Below.refl _ _)⟩
  case round =>
    obtain ⟨k, out, hk, rfl, hol, HS, HO, HB⟩ := hrel
    obtain ⟨wo, rfl⟩ : ∃ wo : World, wo = wr := ⟨_, rfl⟩
    by_cases hlt : k < n
    · have HH := Lib.hid HO.out.holds
      have HW := Lib.hid ha
      have HC := Lib.hid hcell
      clear ha hcell
      go_wp2
      go_loopw [5, 6] (fun m i wi => ∃ (j : Nat) (t : Int), j ≤ n ∧ i = .int .i64 j ∧ m = .int .i64 t ∧ -1 ≤ t ∧ t < n ∧ Hid (Best ls out j t) ∧ Hid (∃ q, wi = wo.drewN q)) (fun _ i _ => n - (intOf i).toNat)
      case atStart => exact ⟨0, -1, Nat.zero_le _, rfl, rfl, by omega, by omega, Lib.hid (Best.start ls out), Lib.hid ⟨0, rfl⟩⟩
      case round =>
        obtain ⟨j, t, hj, rfl, rfl, ht1, ht2, HT, HQ⟩ := hrel
        by_cases hjn : j < n
        · obtain ⟨rfl, hbw⟩ := HW.out (by omega)
          have HX : Hid (∀ (k : Nat) (h : k < ls.length), wr.cell? ⟨b, o + k, none⟩ = some (.string ⟨(ls[k]).toArray⟩)) := Lib.hid (fun k h => by
            obtain ⟨q, rfl⟩ := HQ.out
            rw [World.cell?_drewN]
            exact (HB.out.cell (p := ⟨b, o + k, none⟩) hbw).trans (HC.out k _ (List.getElem?_eq_getElem h)))
          obtain ⟨x, hx, hcx⟩ : ∃ x : ByteArray, x.data.toList = ls[j] ∧ wr.cell? ⟨b, o + j, none⟩ = some (.string x) := ⟨⟨(ls[j]).toArray⟩, by simp, HX.out j (by omega)⟩
          have C := fun m => has_any u3 out (by omega) x (wr.drewN m) (by obtain ⟨q, rfl⟩ := HQ.out; exact HH.out)
          have hm : ∀ q', ∃ q, wr.drewN q' = wo.drewN q := fun q' => by obtain ⟨q, hq⟩ := HQ.out; exact ⟨q + q', by rw [hq, World.drewN_drewN]⟩
          have HM := Lib.hid hm
          clear hm
          by_cases hin : x.data.toList ∈ out
          · simp only [decide_eq_true hin] at C
            have HT' : Hid (Best ls out (j + 1) t) := Lib.hid (HT.out.there (by omega) (hx ▸ hin))
            have HC' := Lib.hid C
            clear hx hin C
            go_wp2
            go_quiet ((go_at_call 31; exact Calls.quiet_of_same (HC'.out _)))
            go_wp2
            go_roundw
            case rel => exact ⟨j + 1, t, by omega, by go_num, rfl, ht1, ht2, HT', Lib.hid (HM.out _)⟩
            case measure => simp [intOf]; omega
          · simp only [decide_eq_false hin] at C
            have HC' := Lib.hid C
            have HN := Lib.hid hin
            have HE := Lib.hid hx
            clear hx hin C
            by_cases ht0 : t < 0
            · obtain rfl : t = -1 := by omega
              have HT' : Hid (Best ls out (j + 1) j) := Lib.hid (HT.out.first (by omega) (HE.out ▸ HN.out))
              go_wp2
              go_quiet ((go_at_call 31; exact Calls.quiet_of_same (HC'.out _)))
              go_wp2
              go_roundw
              case rel => exact ⟨j + 1, j, by omega, by go_num, rfl, by omega, by omega, HT', Lib.hid (HM.out _)⟩
              case measure => simp [intOf]; omega
            · obtain ⟨m, rfl⟩ : ∃ m : Nat, t = m := ⟨t.toNat, by omega⟩
              obtain ⟨y, hy, hcy⟩ : ∃ y : ByteArray, y.data.toList = ls[m] ∧ wr.cell? ⟨b, o + m, none⟩ = some (.string y) := ⟨⟨(ls[m]).toArray⟩, by simp, HX.out m (by omega)⟩
              by_cases hxy : x.data.toList < y.data.toList
              · have HT' : Hid (Best ls out (j + 1) j) := Lib.hid (HT.out.less (by omega) (by omega) (HE.out ▸ HN.out) (by rw [← HE.out, ← hy]; exact hxy))
                have hb := less_text x y
                simp only [decide_eq_true hxy] at hb
                clear hy hxy
                go_wp2
                go_quiet ((go_at_call 31; exact Calls.quiet_of_same (HC'.out _)))
                go_wp2
                go_roundw
                case rel => exact ⟨j + 1, j, by omega, by go_num, rfl, by omega, by omega, HT', Lib.hid (HM.out _)⟩
                case measure => simp [intOf]; omega
              · have HT' : Hid (Best ls out (j + 1) m) := Lib.hid (HT.out.more (by omega) (by omega) (by rw [← HE.out, ← hy]; exact hxy))
                have hb := less_text x y
                simp only [decide_eq_false hxy] at hb
                clear hy hxy
                go_wp2
                go_quiet ((go_at_call 31; exact Calls.quiet_of_same (HC'.out _)))
                go_wp2
                go_roundw
                case rel => exact ⟨j + 1, m, by omega, by go_num, rfl, by omega, by omega, HT', Lib.hid (HM.out _)⟩
                case measure => simp [intOf]; omega
        · obtain rfl : j = n := by omega
          by_cases ht0 : t < 0
          · obtain rfl : t = -1 := by omega
            have HS' : Hid (Sel ls out (k + 1)) := Lib.hid ((hN ▸ HT.out).none HS.out)
            have HO' : Hid (OwnS wr w.heap.size u3 out) := Lib.hid (by obtain ⟨q, rfl⟩ := HQ.out; exact HO.out)
            have HB' : Hid (Below w.heap.size w wr) := Lib.hid (by obtain ⟨q, rfl⟩ := HQ.out; exact below_drewN' HB.out q)
            clear hjn
            go_wp2
            go_roundw
            case rel => exact ⟨k + 1, out, by omega, by go_num, by omega, HS', HO', HB'⟩
            case measure => simp [intOf]; omega
          · obtain ⟨m, rfl⟩ : ∃ m : Nat, t = m := ⟨t.toNat, by omega⟩
            obtain ⟨rfl, hbw⟩ := HW.out (by omega)
            obtain ⟨y, hy, hcy⟩ : ∃ y : ByteArray, y.data.toList = ls[m] ∧ wr.cell? ⟨b, o + m, none⟩ = some (.string y) := ⟨⟨(ls[m]).toArray⟩, by simp, by
              obtain ⟨q, rfl⟩ := HQ.out
              rw [World.cell?_drewN]
              exact (HB.out.cell (p := ⟨b, o + m, none⟩) hbw).trans (HC.out m _ (List.getElem?_eq_getElem (by omega)))⟩
            have HS' : Hid (Sel ls (out ++ [y.data.toList]) (k + 1)) := Lib.hid (by rw [hy]; exact (hN ▸ HT.out).some HS.out (by omega))
            have HO' : Hid (OwnS wr w.heap.size u3 out) := Lib.hid (by obtain ⟨q, rfl⟩ := HQ.out; exact HO.out)
            have HB' : Hid (Below w.heap.size w wr) := Lib.hid (by obtain ⟨q, rfl⟩ := HQ.out; exact below_drewN' HB.out q)
            have hsz := HB'.out.size
            clear hjn hy
            go_wp2_with (at_builtin; refine wpList_append_own _ rfl _ _ 33 rfl w.heap.size 9 i0 (.string ⟨#[]⟩) 1 16 Tryz.underlying33 hi hz0 hz1 hz2 rfl (by decide) _ _ _ rfl (World.ownsRow.alloc HO'.out _) ⟨wr.heap.size, 0, none⟩ 1 1 [.string y] rfl rfl ?c1 ?c2 ?c3 ?c4 ?c5 ?_)
            case c2 => rfl
            case c3 => unfold maxLen; omega
            case c4 => omega
            case c5 => omega
            · intro v' w2 hown' hgrow _
              have HO2 : Hid (OwnS w2 w.heap.size v' (out ++ [y.data.toList])) := Lib.hid (OwnS.app rfl hown')
              have HB2 : Hid (Below w.heap.size w w2) := Lib.hid (below_grown HB'.out HO'.out hgrow (Nat.le_refl _) hsz)
              clear hown' hgrow
              go_wp2
              go_roundw
              case rel => exact ⟨k + 1, out ++ [y.data.toList], by omega, by go_num, by simp; omega, HS', HO2, HB2⟩
              case measure => simp [intOf]; omega
    · obtain rfl : k = n := by omega
      have HD : Hid (out = srt ls) := Lib.hid ((hN ▸ HS.out : Sel ls out ls.length).done)
      clear hlt ha hcell
      go_wp2
      go_ret
      exact ⟨_, rfl, by rw [← HD.out]; exact HO.out, HB.out⟩
end Go.Proofs.YtkcamfcjkjiijaaGreatDoor
