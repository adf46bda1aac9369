/-
  path.Split and the reference's Split: a text's directory and last part; nothing old turns.
-/
import Derived.Test.YtgoekfonbpffdabDoorPCleanRef
namespace Go.Proofs.YtgoekfonbpffdabDoor
open Go.RowKit Go.Sort
abbrev lastS (l : Bs) : Int := Lib.lastIndex l [47]
theorem lastS_occ (l : Bs) : lastS l = Lib.lastOcc l [47] l.length := by
  unfold lastS Lib.lastIndex
  by_cases h : 1 ≤ l.length
  · rw [if_pos (by simpa using h)]
    have e : l.length - ([47] : Bs).length + 1 = l.length := by simp; omega
    rw [e]
  · have : l = [] := List.eq_nil_of_length_eq_zero (by omega)
    subst this; rfl
theorem occ47 (l : Bs) (k : Nat) (h : k < l.length) : Lib.occAt l [47] k = decide (l[k] = 47) := by
  unfold Lib.occAt
  rw [List.drop_eq_getElem_cons h]
  by_cases e : l[k] = 47
  · simp [List.isPrefixOf, e]
  · have : ((47 : UInt8) == l[k]) = false := by simp; exact fun h => e h.symm
    simp [List.isPrefixOf, this, e]
theorem last_cases (l : Bs) : (lastS l = -1 ∧ (47 : UInt8) ∉ l) ∨ ∃ (i : Nat) (h : i < l.length), lastS l = i ∧ l[i] = 47 ∧ ∀ j, i < j → (hj : j < l.length) → l[j] ≠ 47 := by
  rw [lastS_occ]
  rcases Lib.lastOcc_spec l [47] l.length with ⟨e, hn⟩ | ⟨i, hi, e, hc, hn⟩
  · refine .inl ⟨e, fun hm => ?_⟩
    obtain ⟨j, hj, he⟩ := List.mem_iff_getElem.1 hm
    have := hn j hj
    rw [occ47 l j hj, he] at this
    simp at this
  · refine .inr ⟨i, hi, e, ?_, fun j h1 h2 e2 => ?_⟩
    · rw [occ47 l i hi] at hc; simpa using hc
    · have := hn j h1 h2
      rw [occ47 l j h2, e2] at this
      simp at this
theorem last_at (a p : Bs) (h : (47 : UInt8) ∉ p) : lastS (a ++ 47 :: p) = a.length := by
  rcases last_cases (a ++ 47 :: p) with ⟨_, hn⟩ | ⟨i, hi, e, hc, hn⟩
  · simp at hn
  · rw [e]
    have hlen : (a ++ 47 :: p).length = a.length + 1 + p.length := by simp; omega
    rcases Nat.lt_trichotomy i a.length with h1 | h1 | h1
    · exact absurd (by rw [List.getElem_append_right (by omega)]; simp) (hn a.length h1 (by omega))
    · rw [h1]
    · exfalso
      apply h
      have : (a ++ 47 :: p)[i] = p[i - a.length - 1]'(by omega) := by
        rw [List.getElem_append_right (by omega), List.getElem_cons]
        rw [dif_neg (by omega)]
      rw [this] at hc
      rw [← hc]
      exact List.getElem_mem _
theorem right_last {l : Bs} (h : right l = true) : ∃ i : Nat, lastS l = i ∧ ended (l.take (max i 1)) ++ l.drop (i + 1) = l := by
  obtain ⟨e, hg, _, _, _⟩ := right_parts h
  generalize parts l = ps at *
  subst e
  rcases List.eq_nil_or_concat ps with rfl | ⟨q, p, rfl⟩
  · exact ⟨0, by decide, by decide⟩
  · rw [List.concat_eq_append] at *
    have hgp : good p := hg p (by simp)
    have hgq : ∀ x ∈ q, good x := fun x hx => hg x (by simp [hx])
    have e : joined (q ++ [p]) = jn q ++ 47 :: p := by rw [joined, if_neg (by simp), jn_append]; simp [jn]
    rw [e]
    refine ⟨(jn q).length, last_at _ _ hgp.2, ?_⟩
    have hd : (jn q ++ 47 :: p).drop ((jn q).length + 1) = p := by
      have : jn q ++ 47 :: p = (jn q ++ [47]) ++ p := by simp
      rw [this]; exact List.drop_left' (by simp)
    rw [hd]
    by_cases hq : q = []
    · subst hq; simp [jn, ended]
    · have hl : 1 ≤ (jn q).length := by
        cases q with
        | nil => exact absurd rfl hq
        | cons x y => simp [jn]
      rw [Nat.max_eq_left hl, List.take_left' rfl, ended, if_neg (jn_last q hgq hq)]
      simp
/-- What Split returns. -/
def splitV (s : ByteArray) : Value :=
  if lastS s.data.toList < 0 then .tuple #[.string ⟨#[]⟩, .string s]
  else if lastS s.data.toList = 0 then .tuple #[.string (s.extract 0 1), .string (s.extract 1 s.size)]
  else .tuple #[.string (s.extract 0 (lastS s.data.toList).toNat), .string (s.extract ((lastS s.data.toList).toNat + 1) s.size)]
set_option maxRecDepth 100000 in
set_option maxHeartbeats 1600000 in
theorem split_any (s : ByteArray) (hs : s.size ≤ 4000) (w : World) : Calls Tryd.prog 16 #[.string s] w fun e w' => e = .returned (splitV s) ∧ Below w.heap.size w w' := by
  have C := fun w => Tryd.strings_LastIndex s ⟨#[47]⟩ (by omega) w
  have hl := Lib.size_eq s
  have hc : Lib.lastIndex s.data.toList (ByteArray.mk #[47]).data.toList = lastS s.data.toList := rfl
  simp only [hc] at C
  obtain ⟨V, HV⟩ : ∃ V, Hid (splitV s = V) := ⟨_, rfl⟩
  rw [HV.out]
  unfold splitV at HV
  rcases last_cases s.data.toList with ⟨e, hn⟩ | ⟨i, hi, e, hy, hz⟩
  · rw [e] at C
    have HR : Hid (V = _) := Lib.hid (HV.out.symm.trans (by rw [e, if_pos (by omega)]))
    clear hn e hc hl
    go_enter Tryd.func16, Tryd.ntmps16
    go_wp2_with (go_at_call 36; refine (C _).mono ?_; rintro e w1 ⟨rfl, rfl⟩)
    go_ret2
    exact ⟨ret_val HR.out.symm, Below.refl _ _⟩
  · rw [e] at C
    have his : i < s.size := by omega
    clear hy hz
    by_cases h0 : i = 0
    · subst h0
      have HR : Hid (V = _) := Lib.hid (HV.out.symm.trans (by rw [e, if_neg (by omega), if_pos (by omega)]))
      clear e hc hl hi
      go_enter Tryd.func16, Tryd.ntmps16
      go_wp2_with (go_at_call 36; refine (C _).mono ?_; rintro e w1 ⟨rfl, rfl⟩)
      go_region
      all_goals (try go_wp2)
      all_goals go_ret2
      exact ⟨by rw [HR.out]; rfl, (Below.refl _ _).drew⟩
    · have HR : Hid (V = _) := Lib.hid (HV.out.symm.trans (by rw [e, if_neg (by omega), if_neg (by omega), Int.toNat_natCast]))
      clear e hc hl hi
      go_enter Tryd.func16, Tryd.ntmps16
      go_wp2_with (go_at_call 36; refine (C _).mono ?_; rintro e w1 ⟨rfl, rfl⟩)
      go_region
      all_goals (try go_wp2)
      all_goals go_ret2
      have hm : (max (i : Int) 1).toNat = i := by omega
      refine ⟨?_, (Below.refl _ _).drew⟩
      show Ending.returned (.tuple #[.string (s.extract 0 (max (i : Int) 1).toNat), .string (s.extract (i + 1) s.size)]) = _
      rw [hm, HR.out]
theorem ext_head (s : ByteArray) (h : 0 < s.size) (h47 : s[0] = 47) : s.extract 0 1 = ⟨#[47]⟩ := by
  have := ext_one s 0 h
  exact str_of (by rw [this.1, h47])
theorem occ_next (s : ByteArray) (k : Nat) (h : k < s.size) (e : s[k] = 47) : Lib.lastOcc s.data.toList [47] (k + 1) = k := by
  have hl := Lib.size_eq s
  rw [Lib.lastOcc_hit _ _ _ (by rw [occ47 _ k (by omega)]; exact decide_eq_true e)]
theorem occ_same (s : ByteArray) (k : Nat) (h : k < s.size) (e : ¬ s[k] = 47) : Lib.lastOcc s.data.toList [47] (k + 1) = Lib.lastOcc s.data.toList [47] k := by
  have hl := Lib.size_eq s
  rw [Lib.lastOcc_miss _ _ _ (by rw [occ47 _ k (by omega)]; exact decide_eq_false e)]
set_option maxRecDepth 100000 in
set_option maxHeartbeats 1600000 in
theorem split_ref (s : ByteArray) (hs : s.size ≤ 4000) (w : World) : Calls Tryd.prog 17 #[.string s] w fun e w' => e = .returned (splitV s) ∧ Below w.heap.size w w' := by
  have hl := Lib.size_eq s
  obtain ⟨V, HV⟩ : ∃ V, Hid (splitV s = V) := ⟨_, rfl⟩
  rw [HV.out]
  unfold splitV at HV
  have HC := Lib.hid (last_cases s.data.toList)
  have HL : Hid (Lib.lastOcc s.data.toList [47] s.size = lastS s.data.toList) := Lib.hid (by rw [lastS_occ, hl])
  have HLL := Lib.hid hl
  clear hl
  go_enter Tryd.func17, Tryd.ntmps17
  go_wp2
  go_loop [4, 5] (fun u i => ∃ (k : Nat) (m : Int), k ≤ s.size ∧ i = .int .i64 k ∧ u = .int .i64 m ∧ -1 ≤ m ∧ m ≤ k ∧ Hid (m = Lib.lastOcc s.data.toList [47] k)) (fun _ i => s.size - (intOf i).toNat)
  case atStart => exact ⟨0, -1, Nat.zero_le _, rfl, rfl, by omega, by omega, Lib.hid rfl⟩
  case round =>
    obtain ⟨k, m, hk, rfl, rfl, hm0, hm1, H⟩ := hrel
    by_cases hlt : k < s.size
    · have hc := s[k].toNat_lt
      by_cases h47 : s[k] = 47
      · have hb := is47 h47
        have HN := Lib.hid (occ_next s k hlt h47)
        clear h47
        go_wp2
        go_round
        case rel => exact ⟨k + 1, k, by omega, by go_num, rfl, by omega, by omega, Lib.hid HN.out.symm⟩
        case measure => simp [intOf]; omega
      · have hb := not47 h47
        have HN := Lib.hid (occ_same s k hlt h47)
        clear h47
        go_wp2
        go_round
        case rel => exact ⟨k + 1, m, by omega, by go_num, rfl, by omega, by omega, Lib.hid (H.out.trans HN.out.symm)⟩
        case measure => simp [intOf]; omega
    · obtain rfl : k = s.size := by omega
      rcases HC.out with ⟨e, _⟩ | ⟨i, hi, e, he, _⟩
      · have HR : Hid (V = _) := Lib.hid (HV.out.symm.trans (by rw [e, if_pos (by omega)]))
        obtain rfl : m = -1 := by rw [H.out, HL.out, e]
        clear e hlt
        go_wp2
        go_ret2
        exact ⟨ret_val HR.out.symm, Below.refl _ _⟩
      · have hmi : m = i := by rw [H.out, HL.out, e]
        subst hmi
        have his : i < s.size := by have := HLL.out; omega
        by_cases h0 : i = 0
        · subst h0
          have HX := Lib.hid (ext_head s his he)
          have HR : Hid (V = _) := Lib.hid (HV.out.symm.trans (by rw [e, if_neg (by omega), if_pos (by omega), HX.out]))
          clear e hlt he hi
          go_wp2
          go_region
          all_goals (try go_wp2)
          all_goals go_ret2
          exact ⟨by rw [HR.out]; rfl, (Below.refl _ _).drew⟩
        · have HR : Hid (V = _) := Lib.hid (HV.out.symm.trans (by rw [e, if_neg (by omega), if_neg (by omega), Int.toNat_natCast]))
          have hib : ((i : Int) == 0) = false := beq_eq_false_iff_ne.2 (by omega)
          clear e hlt he hi
          go_wp2
          go_region
          all_goals (try go_wp2)
          all_goals go_ret2
          exact ⟨by rw [HR.out]; rfl, (Below.refl _ _).drew⟩
end Go.Proofs.YtgoekfonbpffdabDoor
