/-
  The reference's Parts: a text's parts; nothing old turns.
-/
import Derived.Test.YtolpcnhgmmnmcaaGreatDoorPName
import Derived.Test.YtolpcnhgmmnmcaaGreatDoorPResolved
import Derived.Laws.DeepStrings4
namespace Go.Proofs.YtolpcnhgmmnmcaaGreatDoor
open Go.RowKit Go.Sort
theorem drop_cons (s : ByteArray) (k : Nat) (h : k < s.size) : s.data.toList.drop k = s[k] :: s.data.toList.drop (k + 1) := by
  have hl := Lib.size_eq s
  exact List.drop_eq_getElem_cons (by omega)
theorem ext_one (s : ByteArray) (k : Nat) (h : k < s.size) : (s.extract k (k + 1)).data.toList = [s[k]] ∧ (s.extract k (k + 1)).size = 1 := by
  have hl := Lib.size_eq s
  have e : (s.extract k (k + 1)).data.toList = [s[k]] := by
    rw [Lib.extract_data]
    have := drop_cons s k h
    simp only [this, Nat.add_sub_cancel_left, List.take_succ_cons, List.take_zero]
  exact ⟨e, by rw [Lib.size_eq, e]; rfl⟩
theorem app_bytes (U V : ByteArray) : (U ++ V).data.toList = U.data.toList ++ V.data.toList := by simp
theorem empty_yes {U : ByteArray} (h : U.data.toList = []) : U.toList.isEmpty = true := by rw [ByteArray.toList_eq, h]; rfl
theorem empty_no {U : ByteArray} (h : U.data.toList ≠ []) : U.toList.isEmpty = false := by rw [ByteArray.toList_eq]; simpa using h

set_option maxRecDepth 100000 in
set_option maxHeartbeats 1600000 in
theorem parts_ref (s : ByteArray) (hs : s.size ≤ 4000) (w : World) :
    Calls Tryz.prog 102 #[.string s] w fun e w' => ∃ v, e = .returned v ∧ OwnS w' w.heap.size v (parts s.data.toList) ∧ Below w.heap.size w w' := by
  obtain ⟨i0, hi, hz0, hz1, hz2⟩ := info_parts infoS
  obtain ⟨PS, HPS⟩ : ∃ PS, Hid (parts s.data.toList = PS) := ⟨_, rfl⟩
  rw [HPS.out]
  go_enter Tryz.func102, Tryz.ntmps102
  go_wp2
  go_loopw [3, 4, 5] (fun o u i wr => ∃ (k : Nat) (done : List Bs) (U : ByteArray), k ≤ s.size ∧ i = .int .i64 k ∧ u = .string U ∧ U.size ≤ k ∧ done.length ≤ k ∧ Hid (OwnS wr w.heap.size o done ∧ Below w.heap.size w wr ∧ done ++ parts0 U.data.toList (s.data.toList.drop k) = PS)) (fun _ _ i _ => s.size - (intOf i).toNat)
  case atStart => exact ⟨0, [], ⟨#[]⟩, Nat.zero_le _, rfl, rfl, Nat.le_refl _, Nat.le_refl _, Lib.hid ⟨OwnS.nil _ _, Below.refl _ _, by rw [← HPS.out]; rfl⟩⟩
  case round =>
    obtain ⟨k, done, U, hk, rfl, rfl, hU, hd, H⟩ := hrel
    have hsz := H.out.2.1.size
    by_cases hlt : k < s.size
    · have hc := s[k].toNat_lt
      have hdr := drop_cons s k hlt
      by_cases h47 : s[k] = 47
      · have hb := is47 h47
        by_cases hu : U.data.toList = []
        · have hue := empty_yes hu
          have HE : Hid (done ++ parts0 [] (s.data.toList.drop (k + 1)) = PS) := Lib.hid (by rw [← H.out.2.2, hdr, parts0, if_pos h47, if_pos hu])
          clear hdr h47 hu
          go_wp2
          go_roundw
          case rel => exact ⟨k + 1, done, ⟨#[]⟩, by omega, by go_num, rfl, Nat.zero_le _, by omega, Lib.hid ⟨H.out.1, H.out.2.1, HE.out⟩⟩
          case measure => simp [intOf]; omega
        · have hue := empty_no hu
          have HE : Hid ((done ++ [U.data.toList]) ++ parts0 [] (s.data.toList.drop (k + 1)) = PS) := Lib.hid (by rw [← H.out.2.2, hdr, parts0, if_pos h47, if_neg hu]; simp)
          clear hdr h47 hu
          go_wp2_with (at_builtin; refine wpList_append_own _ rfl _ _ 25 rfl w.heap.size 9 i0 (.string ⟨#[]⟩) 1 16 Tryz.underlying25 hi hz0 hz1 hz2 rfl (by decide) _ _ _ rfl (World.ownsRow.alloc H.out.1 _) ⟨wr.heap.size, 0, none⟩ 1 1 [.string U] rfl rfl ?c1 ?c2 ?c3 ?c4 ?c5 ?_)
          case c1 =>
            intro j u hj
            match j, hj with
            | 0, hj => simp at hj; subst hj; simp [Addr.add]
          case c2 => intro u hu; simp at hu; subst hu; rfl
          case c3 => unfold maxLen; omega
          case c4 => omega
          case c5 => simp; omega
          · intro v' w2 hown' hgrow _
            have HO' : Hid (OwnS w2 w.heap.size v' (done ++ [U.data.toList])) := Lib.hid (OwnS.app rfl hown')
            have HB' : Hid (Below w.heap.size w w2) := Lib.hid (below_grown H.out.2.1 H.out.1 hgrow (Nat.le_refl _) hsz)
            clear hown' hgrow
            go_wp2
            go_roundw
            case rel => exact ⟨k + 1, done ++ [U.data.toList], ⟨#[]⟩, by omega, by go_num, rfl, Nat.zero_le _, by simp; omega, Lib.hid ⟨HO'.out, HB'.out, HE.out⟩⟩
            case measure => simp [intOf]; omega
      · have hb := not47 h47
        obtain ⟨he1, he2⟩ := ext_one s k hlt
        have HE : Hid (done ++ parts0 (U ++ s.extract k (k + 1)).data.toList (s.data.toList.drop (k + 1)) = PS) := Lib.hid (by rw [← H.out.2.2, hdr, parts0, if_neg h47, app_bytes, he1])
        have hsz2 : (U ++ s.extract k (k + 1)).size = U.size + 1 := by rw [ByteArray.size_append, he2]
        clear hdr h47 he1
        go_wp2
        go_roundw
        case rel => exact ⟨k + 1, done, U ++ s.extract k (k + 1), by omega, by go_num, rfl, by omega, by omega, Lib.hid ⟨H.out.1, H.out.2.1, HE.out⟩⟩
        case measure => simp [intOf]; omega
    · obtain rfl : k = s.size := by omega
      have hdr : s.data.toList.drop s.size = [] := List.drop_eq_nil_of_le (by rw [← Lib.size_eq]; exact Nat.le_refl _)
      by_cases hu : U.data.toList = []
      · have hue := empty_yes hu
        have HE : Hid (done = PS) := Lib.hid (by rw [← H.out.2.2, hdr, parts0, if_pos hu]; simp)
        clear hdr hu hlt
        go_wp2
        go_ret
        exact ⟨_, rfl, by rw [← HE.out]; exact H.out.1, H.out.2.1⟩
      · have hue := empty_no hu
        have HE : Hid (done ++ [U.data.toList] = PS) := Lib.hid (by rw [← H.out.2.2, hdr, parts0, if_neg hu])
        clear hdr hu hlt
        go_wp2_with (at_builtin; refine wpList_append_own _ rfl _ _ 25 rfl w.heap.size 9 i0 (.string ⟨#[]⟩) 1 16 Tryz.underlying25 hi hz0 hz1 hz2 rfl (by decide) _ _ _ rfl (World.ownsRow.alloc H.out.1 _) ⟨wr.heap.size, 0, none⟩ 1 1 [.string U] rfl rfl ?d1 ?d2 ?d3 ?d4 ?d5 ?_)
        case d1 =>
          intro j u hj
          match j, hj with
          | 0, hj => simp at hj; subst hj; simp [Addr.add]
        case d2 => intro u hu; simp at hu; subst hu; rfl
        case d3 => unfold maxLen; omega
        case d4 => omega
        case d5 => simp; omega
        · intro v' w2 hown' hgrow _
          have HO' : Hid (OwnS w2 w.heap.size v' (done ++ [U.data.toList])) := Lib.hid (OwnS.app rfl hown')
          have HB' : Hid (Below w.heap.size w w2) := Lib.hid (below_grown H.out.2.1 H.out.1 hgrow (Nat.le_refl _) hsz)
          clear hown' hgrow
          go_wp2
          go_ret
          exact ⟨_, rfl, by rw [← HE.out]; exact HO'.out, HB'.out⟩
end Go.Proofs.YtolpcnhgmmnmcaaGreatDoor
