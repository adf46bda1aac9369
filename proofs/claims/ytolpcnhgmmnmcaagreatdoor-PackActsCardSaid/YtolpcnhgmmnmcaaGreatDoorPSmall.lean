/-
  The small functions of path (alnum, printable, ended, Join, Under and the tests of parts) and the reference's Join and Under, each by what it returns for every argument; the world stays as it was.
-/
import Derived.Test.YtolpcnhgmmnmcaaGreatDoorShelf
import Derived.Test.YtolpcnhgmmnmcaaGreatDoorPMath
import Derived.WalkKit
import Derived.Lib.Hide
import Derived.WalkSmall
import Derived.Lib.OwnBridge
namespace Go.Proofs.YtolpcnhgmmnmcaaGreatDoor
open Go.RowKit Go.Sort
theorem str_of {x : ByteArray} {l : Bs} (h : x.data.toList = l) : x = ⟨l.toArray⟩ := by subst h; simp
theorem ret_bool {a b : Bool} (h : a = b) : Ending.returned (.bool a) = Ending.returned (.bool b) := congrArg (fun b => Ending.returned (.bool b)) h
theorem ne_empty (x : ByteArray) : (!x.toList.isEmpty) = decide (x.data.toList ≠ []) := by rw [ByteArray.toList_eq]; cases x.data.toList <;> simp
theorem ne_text (x : ByteArray) (l : Bs) : (!x.toList == l) = decide (x.data.toList ≠ l) := by
  rw [ByteArray.toList_eq]; by_cases h : x.data.toList = l <;> simp [h]
theorem suf_eq (l : Bs) : Lib.hasSuffix l [47] = decide (l.getLast? = some 47) := by
  rcases List.eq_nil_or_concat l with rfl | ⟨a, b, rfl⟩
  · decide
  · rw [Bool.eq_iff_iff]
    unfold Lib.hasSuffix
    rw [List.isSuffixOf_iff_suffix]
    simp only [List.concat_eq_append, List.getLast?_append, List.getLast?_singleton, Option.some_or, Option.some.injEq, decide_eq_true_eq]
    constructor
    · rintro ⟨t, ht⟩
      have := congrArg List.getLast? ht
      simpa using this.symm
    · rintro rfl
      exact ⟨a, rfl⟩
set_option maxHeartbeats 1000000 in
theorem ended_any (d : ByteArray) (hd : d.size ≤ 4000) (w : World) : Calls Tryz.prog 92 #[.string d] w fun e w' => e = .returned (.string ⟨(ended d.data.toList).toArray⟩) ∧ w = w' := by
  have C := fun w => Tryz.strings_HasSuffix d ⟨#[47]⟩ w (by omega)
  have hs : Lib.hasSuffix d.data.toList (ByteArray.mk #[47]).data.toList = decide (d.data.toList.getLast? = some 47) := suf_eq _
  simp only [hs] at C
  clear hs
  unfold ended
  by_cases h : d.data.toList.getLast? = some 47
  · have hr : ByteArray.mk (if d.data.toList.getLast? = some 47 then d.data.toList else d.data.toList ++ [47]).toArray = d := by rw [if_pos h]
    rw [hr]
    simp only [decide_eq_true h] at C
    clear h hr
    go_enter Tryz.func92, Tryz.ntmps92
    go_wp2_with (go_at_call 59; refine (C _).mono ?_; rintro e w1 ⟨rfl, rfl⟩)
    go_ret
    exact ⟨rfl, rfl⟩
  · have hr : ByteArray.mk (if d.data.toList.getLast? = some 47 then d.data.toList else d.data.toList ++ [47]).toArray = d ++ ⟨#[47]⟩ := by
      rw [if_neg h]; exact (str_of (by simp)).symm
    rw [hr]
    simp only [decide_eq_false h] at C
    clear h hr
    have h1s : (ByteArray.mk #[47]).size = 1 := rfl
    go_enter Tryz.func92, Tryz.ntmps92
    go_wp2_with (go_at_call 59; refine (C _).mono ?_; rintro e w1 ⟨rfl, rfl⟩)
    go_ret
    exact ⟨rfl, rfl⟩
theorem ended_size (d : ByteArray) (E : ByteArray) (h : E.data.toList = ended d.data.toList) : E.size ≤ d.size + 1 := by
  rw [Lib.size_eq, Lib.size_eq, h]; unfold ended; split <;> simp
theorem nonempty_any (x : ByteArray) (w : World) : Calls Tryz.prog 127 #[.string x] w fun e w' => e = .returned (.bool (decide (x.data.toList ≠ []))) ∧ w = w' := by
  go_enter Tryz.func127, Tryz.ntmps127
  go_wp2
  go_ret
  exact ⟨ret_bool (ne_empty x), rfl⟩
theorem nodot_any (x : ByteArray) (w : World) : Calls Tryz.prog 125 #[.string x] w fun e w' => e = .returned (.bool (decide (x.data.toList ≠ [46]))) ∧ w = w' := by
  go_enter Tryz.func125, Tryz.ntmps125
  go_wp2
  go_ret
  exact ⟨ret_bool (ne_text x _), rfl⟩
set_option maxHeartbeats 1000000 in
theorem under_any (d s : ByteArray) (hd : d.size ≤ 4000) (w : World) : Calls Tryz.prog 58 #[.string d, .string s] w fun e w' => e = .returned (.bool (under d.data.toList s.data.toList)) ∧ w = w' := by
  have C1 := fun w => ended_any d hd w
  obtain ⟨E, hE, hb⟩ : ∃ E : ByteArray, E = ⟨(ended d.data.toList).toArray⟩ ∧ E.data.toList = ended d.data.toList := ⟨_, rfl, by simp⟩
  simp only [← hE] at C1
  have C2 := fun w => Tryz.strings_CutPrefix s E w
  have hu : under d.data.toList s.data.toList = (Lib.hasPrefix s.data.toList E.data.toList && decide (E.data.toList.length < s.data.toList.length)) := by rw [under, hb]; rfl
  rw [hu]
  clear hu hb hE
  cases hp : Lib.hasPrefix s.data.toList E.data.toList
  · simp only [hp] at C2
    generalize ByteArray.mk (Lib.trimPrefix s.data.toList E.data.toList).toArray = R at C2
    clear hp
    go_enter Tryz.func58, Tryz.ntmps58
    go_wp2_with (first | (go_at_call 92; refine (C1 _).mono ?_; rintro e w1 ⟨rfl, rfl⟩) | (go_at_call 91; refine (C2 _).mono ?_; rintro e w1 ⟨rfl, rfl⟩))
    go_ret
    exact ⟨rfl, rfl⟩
  · have ht : Lib.trimPrefix s.data.toList E.data.toList = s.data.toList.drop E.data.toList.length := by unfold Lib.trimPrefix; rw [if_pos hp]
    obtain ⟨R, hR, hRb⟩ : ∃ R : ByteArray, R = ⟨(Lib.trimPrefix s.data.toList E.data.toList).toArray⟩ ∧ R.data.toList = s.data.toList.drop E.data.toList.length := ⟨_, rfl, by rw [ht]⟩
    simp only [hp, ← hR] at C2
    have hl : (E.data.toList.length < s.data.toList.length) ↔ R.data.toList ≠ [] := by rw [hRb, Ne, List.drop_eq_nil_iff]; omega
    simp only [Bool.true_and, hl]
    clear hp ht hR hRb hl
    go_enter Tryz.func58, Tryz.ntmps58
    go_wp2_with (first | (go_at_call 92; refine (C1 _).mono ?_; rintro e w1 ⟨rfl, rfl⟩) | (go_at_call 91; refine (C2 _).mono ?_; rintro e w1 ⟨rfl, rfl⟩))
    go_ret
    exact ⟨ret_bool (ne_empty R), rfl⟩
theorem last_eq (d : ByteArray) (_ : 0 < d.size) (hp : d.size - 1 < d.size) : d.data.toList.getLast? = some d[d.size - 1] := by
  rw [List.getLast?_eq_getElem?]
  have : d.data.toList.length = d.size := Lib.size_eq d ▸ rfl
  rw [this, List.getElem?_eq_getElem (by omega)]
  simp
  rfl
theorem last_none (d : ByteArray) (h : d.size = 0) : d.data.toList.getLast? = none := by
  have : d.data.toList.length = d.size := Lib.size_eq d ▸ rfl
  rw [List.getLast?_eq_none_iff]
  exact List.eq_nil_of_length_eq_zero (by omega)
theorem ended_yes {d : ByteArray} (h0 : 0 < d.size) (hp : d.size - 1 < d.size) (hc : d[d.size - 1] = 47) : ended d.data.toList = d.data.toList := by
  rw [ended, if_pos (by rw [last_eq d h0 hp, hc])]
theorem ended_no {d : ByteArray} (h0 : 0 < d.size) (hp : d.size - 1 < d.size) (hc : ¬ d[d.size - 1] = 47) : ended d.data.toList = d.data.toList ++ [47] := by
  rw [ended, if_neg (by rw [last_eq d h0 hp]; simpa using hc)]
theorem ended_nil {d : ByteArray} (h0 : d.size = 0) : ended d.data.toList = d.data.toList ++ [47] := by
  rw [ended, if_neg (by rw [last_none d h0]; simp)]
theorem is47 {x : UInt8} (h : x = 47) : (x.toNat : Int) = 47 := by rw [h]; rfl
theorem not47 {x : UInt8} (h : ¬ x = 47) : ¬ (x.toNat : Int) = 47 := fun e => h (UInt8.toNat_inj.1 (by show x.toNat = 47; omega))
theorem pre_eq (s E : ByteArray) : ((s.extract 0 E.size).toList == E.toList) = E.data.toList.isPrefixOf s.data.toList := by
  have e1 : (s.extract 0 E.size).data.toList = s.data.toList.take E.data.toList.length := by rw [Lib.extract_from_zero, Lib.size_eq E]
  rw [ByteArray.toList_eq, ByteArray.toList_eq, e1, Bool.eq_iff_iff, List.isPrefixOf_iff_prefix, beq_iff_eq, List.prefix_iff_eq_take]
  exact eq_comm
theorem under_yes {d s E : ByteArray} (hE : E.data.toList = ended d.data.toList) (h : E.size < s.size) : ((s.extract 0 E.size).toList == E.toList) = under d.data.toList s.data.toList := by
  rw [pre_eq s E, under, ← hE, decide_eq_true (by rw [← Lib.size_eq, ← Lib.size_eq]; exact h), Bool.and_true]
theorem under_no {d s E : ByteArray} (hE : E.data.toList = ended d.data.toList) (h : ¬ E.size < s.size) : false = under d.data.toList s.data.toList := by
  rw [under, ← hE, decide_eq_false (by rw [← Lib.size_eq, ← Lib.size_eq]; exact h), Bool.and_false]
set_option maxHeartbeats 1000000 in
theorem under_ref (d s : ByteArray) (hd : d.size ≤ 4000) (w : World) : Calls Tryz.prog 67 #[.string d, .string s] w fun e w' => e = .returned (.bool (under d.data.toList s.data.toList)) ∧ w = w' := by
  have h1s : (ByteArray.mk #[47]).size = 1 := rfl
  have hs2 : (d ++ ByteArray.mk #[47]).size = d.size + 1 := by rw [ByteArray.size_append]; rfl
  by_cases h0 : 0 < d.size
  · have hp : d.size - 1 < d.size := by omega
    by_cases hc : d[d.size - 1] = 47
    · have hE : d.data.toList = ended d.data.toList := (ended_yes h0 hp hc).symm
      have hc' := is47 hc
      clear hc
      by_cases hlt : d.size < s.size
      · have HR := Lib.hid (under_yes (s := s) (E := d) hE (by exact hlt))
        clear hE
        go_enter Tryz.func67, Tryz.ntmps67
        go_wp2
        go_ret
        exact ⟨ret_bool (HR.out), rfl⟩
      · have HR := Lib.hid (under_no (s := s) (E := d) hE (by exact hlt))
        clear hE
        go_enter Tryz.func67, Tryz.ntmps67
        go_wp2
        go_ret
        exact ⟨ret_bool HR.out, rfl⟩
    · have hE : (d ++ ByteArray.mk #[47]).data.toList = ended d.data.toList := by rw [ended_no h0 hp hc]; simp
      have hc' := not47 hc
      clear hc
      by_cases hlt : d.size + 1 < s.size
      · have HR := Lib.hid (under_yes (s := s) (E := d ++ ByteArray.mk #[47]) hE (by rw [hs2]; exact hlt))
        clear hE
        go_enter Tryz.func67, Tryz.ntmps67
        go_wp2
        go_ret
        exact ⟨ret_bool ((by rw [hs2] at HR; exact HR.out)), rfl⟩
      · have HR := Lib.hid (under_no (s := s) (E := d ++ ByteArray.mk #[47]) hE (by rw [hs2]; exact hlt))
        clear hE
        go_enter Tryz.func67, Tryz.ntmps67
        go_wp2
        go_ret
        exact ⟨ret_bool HR.out, rfl⟩
  · have h0' : d.size = 0 := by omega
    have hE : (d ++ ByteArray.mk #[47]).data.toList = ended d.data.toList := by rw [ended_nil h0']; simp
    clear h0'
    by_cases hlt : d.size + 1 < s.size
    · have HR := Lib.hid (under_yes (s := s) (E := d ++ ByteArray.mk #[47]) hE (by rw [hs2]; exact hlt))
      clear hE
      go_enter Tryz.func67, Tryz.ntmps67
      go_wp2
      go_ret
      exact ⟨ret_bool ((by rw [hs2] at HR; exact HR.out)), rfl⟩
    · have HR := Lib.hid (under_no (s := s) (E := d ++ ByteArray.mk #[47]) hE (by rw [hs2]; exact hlt))
      clear hE
      go_enter Tryz.func67, Tryz.ntmps67
      go_wp2
      go_ret
      exact ⟨ret_bool HR.out, rfl⟩
end Go.Proofs.YtolpcnhgmmnmcaaGreatDoor
