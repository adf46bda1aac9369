/-
  path.Clean and Right: a text of at most 2000 bytes in its one form, or its error; nothing old turns. Condition: LaidP.
-/
import Derived.Test.YtkcamfcjkjiijaaGreatDoorGPName
import Derived.Test.YtkcamfcjkjiijaaGreatDoorGPResolved
namespace Go.Proofs.YtkcamfcjkjiijaaGreatDoor
open Go.RowKit Go.Sort
theorem joinL_any (v : Value) (ls : List Bs) (hn : (jn ls).length ≤ 5000) (w : World) (h : Holds' w v ls) :
    Calls Tryz.prog 124 #[v, .string ⟨#[47]⟩] w fun e w' => e = .returned (.string ⟨(Lib.join ls [47]).toArray⟩) ∧ Below w.heap.size w w' := by
  have hl := len_le_jn ls
  obtain ⟨a, c, b, o, rfl, hc, ha, hcell⟩ := h
  rcases Nat.eq_zero_or_pos ls.length with h0 | h0
  · have e0 : ls = [] := List.eq_nil_of_length_eq_zero h0
    subst e0
    exact (Tryz.strings_Join_none a c ⟨#[47]⟩ w).mono fun e w' ⟨he, hw⟩ => by subst hw; exact ⟨he, Below.refl _ _⟩
  · obtain ⟨rfl, hb⟩ := ha h0
    have hm : (ls.map fun l => ByteArray.mk l.toArray).map (·.data.toList) = ls := by simp [Function.comp_def]
    have hj : (Lib.join ls [47]).length ≤ 5000 := by
      have := joined_join ls
      have e2 := congrArg List.length this
      rw [joined, if_neg (by rintro rfl; simp at h0)] at e2
      simp at e2; omega
    have := Tryz.strings_Join b o c (ls.map fun l => ByteArray.mk l.toArray) ⟨#[47]⟩ w (fun j x hx => by
      rw [List.getElem?_map] at hx
      cases hg : ls[j]? with
      | none => rw [hg] at hx; cases hx
      | some l => rw [hg] at hx; obtain rfl := Option.some.inj hx; exact hcell j l hg) hb (by rw [List.length_map]; omega) (by rw [List.length_map]; exact hc) (by rw [hm]; show (Lib.join ls [47]).length ≤ _; omega)
    rw [hm, List.length_map] at this
    exact this
theorem pre_head (l : Bs) : Lib.hasPrefix l [47] = decide (l.head? = some 47) := by
  cases l with
  | nil => rfl
  | cons c l => 
    by_cases h : c = 47
    · subst h; simp [Lib.hasPrefix, List.isPrefixOf]
    · have : ((47 : UInt8) == c) = false := by simp; exact fun e => h e.symm
      simp [Lib.hasPrefix, List.isPrefixOf, this, h]
def cleanV (l : Bs) : Value := .tuple #[.string ⟨(cleanE l).1.toArray⟩, .int .i64 (cleanE l).2]
theorem cleanV_bad {l : Bs} (h : ¬ (l.head? = some 47 ∧ l.all okb = true)) : cleanV l = .tuple #[.string ⟨#[]⟩, .int .i64 1] := by unfold cleanV cleanE; rw [if_neg h]
theorem cleanV_long {l : Bs} (h : l.head? = some 47 ∧ l.all okb = true) (h2 : 200 < (joined (resolve (parts l))).length) : cleanV l = .tuple #[.string ⟨#[]⟩, .int .i64 8] := by unfold cleanV cleanE; rw [if_pos h, if_pos h2]
theorem cleanV_ok {l : Bs} {F : ByteArray} (h : l.head? = some 47 ∧ l.all okb = true) (h2 : ¬ 200 < (joined (resolve (parts l))).length) (hF : F.data.toList = joined (resolve (parts l))) : cleanV l = .tuple #[.string F, .int .i64 0] := by
  unfold cleanV cleanE; rw [if_pos h, if_neg h2, str_of hF]
theorem ret_val {a b : Value} (h : a = b) : Ending.returned a = Ending.returned b := congrArg Ending.returned h
set_option maxHeartbeats 1600000 in
theorem clean_any (s : ByteArray) (hs : s.size ≤ 4000) (w : World) (h : LaidP w) :
    Calls Tryz.prog 103 #[.string s] w fun e w' => e = .returned (cleanV s.data.toList) ∧ Below w.heap.size w w' := by
  obtain ⟨V, HV⟩ : ∃ V, Hid (cleanV s.data.toList = V) := ⟨_, rfl⟩
  rw [HV.out]
  have C1 := fun w => Tryz.strings_HasPrefix s ⟨#[47]⟩ w
  have hp : Lib.hasPrefix s.data.toList (ByteArray.mk #[47]).data.toList = decide (s.data.toList.head? = some 47) := pre_head _
  simp only [hp] at C1
  clear hp
  have C2 := fun w => printable_any s (by omega) w
  by_cases hh : s.data.toList.head? = some 47
  · simp only [decide_eq_true hh] at C1
    by_cases ha : s.data.toList.all okb = true
    · have hc := And.intro hh ha
      simp only [ha] at C2
      have C3 := parts_any s (by omega) w h
      have hjl : (jn (resolve (parts s.data.toList))).length ≤ 4001 := by
        have h1 := jn_sub (resolve_sub (parts s.data.toList))
        have h2 := jn_parts s.data.toList
        have h3 := Lib.size_eq s
        omega
      have hpl : (parts s.data.toList).length ≤ 5000 := by
        have h2 := parts_len s.data.toList
        have h3 := Lib.size_eq s
        omega
      obtain ⟨R, hR, hRb⟩ : ∃ R : ByteArray, R = ⟨(Lib.join (resolve (parts s.data.toList)) [47]).toArray⟩ ∧ R.data.toList = Lib.join (resolve (parts s.data.toList)) [47] := ⟨_, rfl, by simp⟩
      have hF : (ByteArray.mk #[47] ++ R).data.toList = joined (resolve (parts s.data.toList)) := by rw [← joined_join, ← hRb]; simp
      have hFs : (ByteArray.mk #[47] ++ R).size = (joined (resolve (parts s.data.toList))).length := by rw [Lib.size_eq, hF]
      have hRs : R.size ≤ 4001 := by
        have e1 : (ByteArray.mk #[47] ++ R).size = 1 + R.size := by rw [ByteArray.size_append]; rfl
        have e2 := clean_len s.data.toList
        have h3 := Lib.size_eq s
        omega
      have C4 := fun v w h => joinL_any v (resolve (parts s.data.toList)) (by omega) w h
      simp only [← hR] at C4
      have C5 := fun v w h => resolved_any v (parts s.data.toList) hpl w h
      have h1s : (ByteArray.mk #[47]).size = 1 := rfl
      by_cases hN : 200 < (joined (resolve (parts s.data.toList))).length
      · have HR : Hid (V = _) := Lib.hid (HV.out.symm.trans (cleanV_long hc hN))
        generalize (joined (resolve (parts s.data.toList))).length = N at *
        generalize parts s.data.toList = ps at *
        have HC4 := Lib.hid C4
        have HC5 := Lib.hid C5
        clear hc hh ha h hF hRb hR C4 C5 hjl hpl
        go_enter Tryz.func103, Tryz.ntmps103
        go_wp2_with (first | (go_at_call 122; refine (C1 _).mono ?_; rintro e w1 ⟨rfl, rfl⟩) | (go_at_call 123; refine (C2 _).mono ?_; rintro e w1 ⟨rfl, rfl⟩) | (go_at_call 126; refine C3.mono ?_; rintro e w2 ⟨v2, rfl, ho2, hb2⟩; have P5 := HC5.out v2 w2 ho2.holds; have HB2 := Lib.hid hb2; clear ho2 hb2) | (go_at_call 125; refine P5.mono ?_; rintro e w3 ⟨v3, rfl, ho3, hb3⟩; have P4 := HC4.out v3 w3 ho3.holds; have HB3 := Lib.hid hb3; clear ho3 hb3) | (go_at_call 124; refine P4.mono ?_; rintro e w4 ⟨rfl, hb4⟩; have HB4 := Lib.hid hb4; clear hb4))
        go_ret2
        have hb12 := HB2.out.trans (HB3.out.mono HB2.out.size)
        exact ⟨ret_val HR.out.symm, hb12.trans (HB4.out.mono hb12.size)⟩
      · have HR : Hid (V = _) := Lib.hid (HV.out.symm.trans (cleanV_ok hc hN hF))
        generalize (joined (resolve (parts s.data.toList))).length = N at *
        generalize parts s.data.toList = ps at *
        have HC4 := Lib.hid C4
        have HC5 := Lib.hid C5
        clear hc hh ha h hF hRb hR C4 C5 hjl hpl
        go_enter Tryz.func103, Tryz.ntmps103
        go_wp2_with (first | (go_at_call 122; refine (C1 _).mono ?_; rintro e w1 ⟨rfl, rfl⟩) | (go_at_call 123; refine (C2 _).mono ?_; rintro e w1 ⟨rfl, rfl⟩) | (go_at_call 126; refine C3.mono ?_; rintro e w2 ⟨v2, rfl, ho2, hb2⟩; have P5 := HC5.out v2 w2 ho2.holds; have HB2 := Lib.hid hb2; clear ho2 hb2) | (go_at_call 125; refine P5.mono ?_; rintro e w3 ⟨v3, rfl, ho3, hb3⟩; have P4 := HC4.out v3 w3 ho3.holds; have HB3 := Lib.hid hb3; clear ho3 hb3) | (go_at_call 124; refine P4.mono ?_; rintro e w4 ⟨rfl, hb4⟩; have HB4 := Lib.hid hb4; clear hb4))
        go_ret2
        have hb12 := HB2.out.trans (HB3.out.mono HB2.out.size)
        exact ⟨ret_val HR.out.symm, hb12.trans (HB4.out.mono hb12.size)⟩
    · have HR : Hid (V = _) := Lib.hid (HV.out.symm.trans (cleanV_bad (fun h => ha h.2)))
      have ha' : s.data.toList.all okb = false := by simpa using ha
      simp only [ha'] at C2
      clear ha ha' hh h
      go_enter Tryz.func103, Tryz.ntmps103
      go_wp2_with (first | (go_at_call 122; refine (C1 _).mono ?_; rintro e w1 ⟨rfl, rfl⟩) | (go_at_call 123; refine (C2 _).mono ?_; rintro e w1 ⟨rfl, rfl⟩))
      go_ret2
      exact ⟨ret_val HR.out.symm, Below.refl _ _⟩
  · have HR : Hid (V = _) := Lib.hid (HV.out.symm.trans (cleanV_bad (fun h => hh h.1)))
    simp only [decide_eq_false hh] at C1
    clear hh h
    go_enter Tryz.func103, Tryz.ntmps103
    go_wp2_with (go_at_call 122; refine (C1 _).mono ?_; rintro e w1 ⟨rfl, rfl⟩)
    go_ret2
    exact ⟨ret_val HR.out.symm, Below.refl _ _⟩
set_option maxHeartbeats 1000000 in
theorem right_any (s : ByteArray) (hs : s.size ≤ 4000) (w : World) (h : LaidP w) :
    Calls Tryz.prog 86 #[.string s] w fun e w' => e = .returned (.bool (right s.data.toList)) ∧ Below w.heap.size w w' := by
  obtain ⟨B, HB⟩ : ∃ B, Hid (right s.data.toList = B) := ⟨_, rfl⟩
  rw [HB.out]
  have C := clean_any s hs w h
  obtain ⟨F, n, hV, hF, hn⟩ : ∃ (F : ByteArray) (n : Int), cleanV s.data.toList = .tuple #[.string F, .int .i64 n] ∧ F.data.toList = (cleanE s.data.toList).1 ∧ n = (cleanE s.data.toList).2 := ⟨⟨(cleanE s.data.toList).1.toArray⟩, _, rfl, by simp, rfl⟩
  rw [hV] at C
  have hB : (decide (n = 0) && decide (F.data.toList = s.data.toList)) = B := by
    rw [← HB.out, right, hF, hn, Bool.eq_iff_iff]
    simp only [Bool.and_eq_true, decide_eq_true_eq]
    constructor
    · rintro ⟨h1, h2⟩; exact Prod.ext h2 h1
    · intro h; rw [h]; exact ⟨rfl, rfl⟩
  have HE := Lib.hid hB
  clear hB hV hF h HB
  by_cases h0 : n = 0
  · subst h0
    clear hn
    go_enter Tryz.func86, Tryz.ntmps86
    go_wp2_with (go_at_call 103; refine C.mono ?_; rintro e w1 ⟨rfl, hb⟩; have HB := Lib.hid hb; clear hb)
    go_ret
    exact ⟨ret_bool (by rw [← HE.out, ByteArray.toList_eq, ByteArray.toList_eq, Bool.eq_iff_iff]; simp), HB.out⟩
  · have h0' : (n == 0) = false := by simpa using h0
    clear hn
    go_enter Tryz.func86, Tryz.ntmps86
    go_wp2_with (go_at_call 103; refine C.mono ?_; rintro e w1 ⟨rfl, hb⟩; have HB := Lib.hid hb; clear hb)
    go_ret
    exact ⟨ret_bool (by rw [← HE.out, decide_eq_false h0]; rfl), HB.out⟩
end Go.Proofs.YtkcamfcjkjiijaaGreatDoor
