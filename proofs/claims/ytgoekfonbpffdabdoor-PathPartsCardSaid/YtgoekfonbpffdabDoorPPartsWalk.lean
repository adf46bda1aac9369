/-
  The walk of PathParts: for every text it returns true; of what was there nothing has turned. Condition: LaidP.
-/
import Derived.Test.YtgoekfonbpffdabDoorPParents
import Derived.Test.YtgoekfonbpffdabDoorPCleansWalk
namespace Go.Proofs.YtgoekfonbpffdabDoor
open Go.RowKit Go.Sort
theorem above_get (ps : List Bs) (k : Nat) (h : k < ps.length) : (above ps ps.length)[k]? = some (joined (ps.take k)) := by
  unfold above
  rw [List.getElem?_map, List.getElem?_range h]; rfl
namespace pathPartsw
set_option maxRecDepth 100000 in
set_option maxHeartbeats 4000000 in
theorem walk_no (s : ByteArray) (hs : s.size ≤ 1000) (hR : right s.data.toList = false) (w : World) (h : LaidP w) :
    Calls Tryd.prog 6 #[.string s] w fun e w' => e = .returned (.bool true) ∧ Below w.heap.size w w' := by
  have C1 := parents_any s hs w h
  have C2 := fun w h => parts_any s (by omega) w h
  have C3 := fun w => parts_ref s (by omega) w
  have C4 := fun w => parents_ref s hs w
  have C5 := fun w h => right_any s (by omega) w h
  simp only [hR] at C5
  have hjl : (jn (parts s.data.toList)).length ≤ 1001 := by
    have h2 := jn_parts s.data.toList
    have h3 := Lib.size_eq s
    omega
  have hpl := len_le_jn (parts s.data.toList)
  have HRT := Lib.hid (fun i => right_take (s := s.data.toList) (i := i))
  have HUT := Lib.hid (fun i => under_take (s := s.data.toList) (i := i))
  have HRP := Lib.hid (fun h => (right_parts (s := s.data.toList) h).1)
  obtain ⟨ps, hps⟩ : ∃ ps, ps = parts s.data.toList := ⟨_, rfl⟩
  simp only [← hps] at C1 C2 C3 C4 hjl hpl HRT HUT HRP
  have HPR := Lib.hid hR
  have HA := Lib.hid awake_any
  have HL := Lib.hid h
  have HC2 := Lib.hid C2
  have HC4 := Lib.hid C4
  have HC5 := Lib.hid C5
  clear h C2 C4 C5 hps hR
  go_enter Tryd.func6, Tryd.ntmps6
  go_wp2_with (go_at_call 20; refine C1.mono ?_; rintro e w1 ⟨v1, rfl, ho, hb⟩; have HH1 := Lib.hid ho.holds; have HB1 := Lib.hid hb; clear ho hb; refine Hid.out ?_)
  have HL1 := Lib.hid (HL.out.on HB1.out)
  have A2 := HC2.out w1 HL1.out
  refine Lib.hid ?_
  clear C1
  go_wp2_with (go_at_call 22; refine A2.mono ?_; rintro e w2 ⟨v2, rfl, ho, hb⟩; have HH2 := Lib.hid ho.holds; have HB2 := Lib.hid hb; clear ho hb; refine Hid.out ?_)
  refine Lib.hid ?_
  clear A2
  go_wp2_with (go_at_call 23; refine (C3 _).mono ?_; rintro e w3 ⟨v3, rfl, ho, hb⟩; have HH3 := Lib.hid ho.holds; have HB3 := Lib.hid (bfin HB2.out hb); have HH2' := Lib.hid (HH2.out.on hb); clear ho hb; refine Hid.out ?_)
  have A4 := same_yes v2 v3 ps (by omega) w3 HH2'.out HH3.out
  refine Lib.hid ?_
  clear C3
  go_wp2_with (go_at_call 21; refine A4.mono ?_; rintro e w4 ⟨rfl, hb⟩; have HB4 := Lib.hid (bfin HB3.out hb); clear hb; refine Hid.out ?_)
  have A5 := HC4.out w4
  refine Lib.hid ?_
  clear A4
  go_wp2_with (go_at_call 24; refine A5.mono ?_; rintro e w5 ⟨v5, rfl, ho, hb⟩; have HH5 := Lib.hid ho.holds; have HB5 := Lib.hid (bfin HB4.out hb); clear ho hb; refine Hid.out ?_)
  have A6 := same_yes v1 v5 _ (by rw [above_len]; omega) w5 (HH1.out.on HB5.out) HH5.out
  refine Lib.hid ?_
  clear A5
  go_wp2_with (go_at_call 21; refine A6.mono ?_; rintro e w6 ⟨rfl, hb⟩; have HB6 := Lib.hid (bfin HB5.out hb); clear hb; refine Hid.out ?_)
  obtain ⟨a, c, b, o, rfl, hc, ha, hcell⟩ := HH1.out
  rw [above_len] at hc ha
  simp only [above_len]
  generalize hN : ps.length = n at *
  refine Lib.hid ?_
  clear A6
  go_wp2
  go_loopw [4] (fun i wr => ∃ k : Nat, k ≤ n ∧ i = .int .i64 k ∧ Hid (Below w1.heap.size w1 wr)) (fun i _ => n - (intOf i).toNat)
  case atStart => exact ⟨0, Nat.zero_le _, rfl, HB6⟩
  case round =>
    obtain ⟨k, hk, rfl, HX⟩ := hrel
    by_cases hlt : k < n
    · have A7 := HC5.out wr (HL1.out.on HX.out)
      clear hcell ha
      go_wp2_with (go_at_call 12; refine A7.mono ?_; rintro e w7 ⟨rfl, hb⟩; have HB7 := Lib.hid (bfin HX.out hb); clear hb)
      go_roundw
      case rel => exact ⟨k + 1, by omega, by go_num, HB7⟩
      case measure => simp [intOf]; omega
    · have A7 := HC5.out wr (HL1.out.on HX.out)
      clear hcell ha
      go_wp2_with (go_at_call 12; refine A7.mono ?_; rintro e w7 ⟨rfl, hb⟩; have HB7 := Lib.hid (bfin HX.out hb); clear hb; refine Hid.out ?_)
      have A8 := HA.out w7 (HL1.out.on HB7.out)
      clear A7
      refine Lib.hid ?_
      go_wp2_with (go_at_call 9; refine A8.mono ?_; rintro e w8 ⟨rfl, hb⟩; have HB8 := Lib.hid (bfin HB7.out hb); clear hb)
      go_ret
      exact ⟨rfl, bfin HB1.out HB8.out⟩
set_option maxRecDepth 100000 in
set_option maxHeartbeats 4000000 in
theorem walk_yes (s : ByteArray) (hs : s.size ≤ 1000) (hR : right s.data.toList = true) (w : World) (h : LaidP w) :
    Calls Tryd.prog 6 #[.string s] w fun e w' => e = .returned (.bool true) ∧ Below w.heap.size w w' := by
  have C1 := parents_any s hs w h
  have C2 := fun w h => parts_any s (by omega) w h
  have C3 := fun w => parts_ref s (by omega) w
  have C4 := fun w => parents_ref s hs w
  have C5 := fun w h => right_any s (by omega) w h
  simp only [hR] at C5
  have hjl : (jn (parts s.data.toList)).length ≤ 1001 := by
    have h2 := jn_parts s.data.toList
    have h3 := Lib.size_eq s
    omega
  have hpl := len_le_jn (parts s.data.toList)
  have HRT := Lib.hid (fun i => right_take (s := s.data.toList) (i := i))
  have HUT := Lib.hid (fun i => under_take (s := s.data.toList) (i := i))
  have HRP := Lib.hid (fun h => (right_parts (s := s.data.toList) h).1)
  obtain ⟨ps, hps⟩ : ∃ ps, ps = parts s.data.toList := ⟨_, rfl⟩
  simp only [← hps] at C1 C2 C3 C4 hjl hpl HRT HUT HRP
  have HPR := Lib.hid hR
  have HA := Lib.hid awake_any
  have HL := Lib.hid h
  have HC2 := Lib.hid C2
  have HC4 := Lib.hid C4
  have HC5 := Lib.hid C5
  clear h C2 C4 C5 hps hR
  go_enter Tryd.func6, Tryd.ntmps6
  go_wp2_with (go_at_call 20; refine C1.mono ?_; rintro e w1 ⟨v1, rfl, ho, hb⟩; have HH1 := Lib.hid ho.holds; have HB1 := Lib.hid hb; clear ho hb; refine Hid.out ?_)
  have HL1 := Lib.hid (HL.out.on HB1.out)
  have A2 := HC2.out w1 HL1.out
  refine Lib.hid ?_
  clear C1
  go_wp2_with (go_at_call 22; refine A2.mono ?_; rintro e w2 ⟨v2, rfl, ho, hb⟩; have HH2 := Lib.hid ho.holds; have HB2 := Lib.hid hb; clear ho hb; refine Hid.out ?_)
  refine Lib.hid ?_
  clear A2
  go_wp2_with (go_at_call 23; refine (C3 _).mono ?_; rintro e w3 ⟨v3, rfl, ho, hb⟩; have HH3 := Lib.hid ho.holds; have HB3 := Lib.hid (bfin HB2.out hb); have HH2' := Lib.hid (HH2.out.on hb); clear ho hb; refine Hid.out ?_)
  have A4 := same_yes v2 v3 ps (by omega) w3 HH2'.out HH3.out
  refine Lib.hid ?_
  clear C3
  go_wp2_with (go_at_call 21; refine A4.mono ?_; rintro e w4 ⟨rfl, hb⟩; have HB4 := Lib.hid (bfin HB3.out hb); clear hb; refine Hid.out ?_)
  have A5 := HC4.out w4
  refine Lib.hid ?_
  clear A4
  go_wp2_with (go_at_call 24; refine A5.mono ?_; rintro e w5 ⟨v5, rfl, ho, hb⟩; have HH5 := Lib.hid ho.holds; have HB5 := Lib.hid (bfin HB4.out hb); clear ho hb; refine Hid.out ?_)
  have A6 := same_yes v1 v5 _ (by rw [above_len]; omega) w5 (HH1.out.on HB5.out) HH5.out
  refine Lib.hid ?_
  clear A5
  go_wp2_with (go_at_call 21; refine A6.mono ?_; rintro e w6 ⟨rfl, hb⟩; have HB6 := Lib.hid (bfin HB5.out hb); clear hb; refine Hid.out ?_)
  obtain ⟨a, c, b, o, rfl, hc, ha, hcell⟩ := HH1.out
  rw [above_len] at hc ha
  simp only [above_len]
  generalize hN : ps.length = n at *
  refine Lib.hid ?_
  clear A6
  go_wp2
  go_loopw [4] (fun i wr => ∃ k : Nat, k ≤ n ∧ i = .int .i64 k ∧ Hid (Below w1.heap.size w1 wr)) (fun i _ => n - (intOf i).toNat)
  case atStart => exact ⟨0, Nat.zero_le _, rfl, HB6⟩
  case round =>
    obtain ⟨k, hk, rfl, HX⟩ := hrel
    by_cases hlt : k < n
    · obtain ⟨rfl, hbw⟩ := ha (by omega)
      obtain ⟨D, hD, hcD⟩ : ∃ D : ByteArray, D.data.toList = joined (ps.take k) ∧ wr.cell? ⟨b, o + k, none⟩ = some (.string D) := ⟨⟨(joined (ps.take k)).toArray⟩, by simp, (HX.out.cell (p := ⟨b, o + k, none⟩) hbw).trans (hcell k _ (by rw [← hN]; exact above_get ps k (by omega)))⟩
      have hDs : D.size ≤ 1002 := by
        have h1 := joined_size (ps.take k)
        have h2 := jn_sub (List.take_sublist k ps)
        rw [Lib.size_eq, hD]; omega
      have hrt := HRT.out k HPR.out
      have hut := HUT.out k HPR.out hlt
      rw [← hD] at hrt hut
      have C8 := fun w h => right_any D (by omega) w h
      simp only [hrt] at C8
      have C9 := fun w => under_any D s (by omega) w
      simp only [hut] at C9
      have HC8 := Lib.hid C8
      have A7 := HC5.out wr (HL1.out.on HX.out)
      clear hcell ha hD hrt hut C8
      go_wp2_with (go_at_call 12; refine A7.mono ?_; rintro e w7 ⟨rfl, hb⟩; have HB7 := Lib.hid (bfin HX.out hb); have hc7 := (hb.cell (p := ⟨b, o + k, none⟩) (Nat.lt_of_lt_of_le hbw HX.out.size)).trans hcD; clear hb hcD; refine Hid.out ?_)
      have A8 := HC8.out w7 (HL1.out.on HB7.out)
      clear A7
      refine Lib.hid ?_
      go_wp2_with (go_at_call 12; refine A8.mono ?_; rintro e w8 ⟨rfl, hb⟩; have HB8 := Lib.hid (bfin HB7.out hb); have hc8 := (hb.cell (p := ⟨b, o + k, none⟩) (Nat.lt_of_lt_of_le hbw HB7.out.size)).trans hc7; clear hb hc7; refine Hid.out ?_)
      clear A8
      refine Lib.hid ?_
      go_wp2_with (go_at_call 25; refine (C9 _).mono ?_; rintro e w9 ⟨rfl, rfl⟩)
      go_roundw
      case rel => exact ⟨k + 1, by omega, by go_num, HB8⟩
      case measure => simp [intOf]; omega
    · have A7 := HC5.out wr (HL1.out.on HX.out)
      have HJ : Hid (s = ⟨(joined ps).toArray⟩) := Lib.hid (str_of (HRP.out HPR.out))
      clear hcell ha
      go_wp2_with (go_at_call 12; refine A7.mono ?_; rintro e w7 ⟨rfl, hb⟩; have HB7 := Lib.hid (bfin HX.out hb); clear hb; refine Hid.out ?_)
      have A8 := HC2.out w7 (HL1.out.on HB7.out)
      clear A7
      refine Lib.hid ?_
      go_wp2_with (go_at_call 22; refine A8.mono ?_; rintro e w8 ⟨v8, rfl, ho, hb⟩; have HH8 := Lib.hid ho.holds; have HB8 := Lib.hid (bfin HB7.out hb); clear ho hb; refine Hid.out ?_)
      have A9 := joined_ref v8 ps (by omega) w8 HH8.out
      rw [← HJ.out] at A9
      clear A8
      refine Lib.hid ?_
      go_wp2_with (go_at_call 26; refine A9.mono ?_; rintro e w9 ⟨rfl, rfl⟩; refine Hid.out ?_)
      have A10 := HA.out w8 (HL1.out.on HB8.out)
      clear A9
      refine Lib.hid ?_
      go_wp2_with (go_at_call 9; refine A10.mono ?_; rintro e w9 ⟨rfl, hb⟩; have HB9 := Lib.hid (bfin HB8.out hb); clear hb)
      go_ret
      exact ⟨rfl, bfin HB1.out HB9.out⟩
set_option maxHeartbeats 1000000 in
theorem walk (s : ByteArray) (_ : s.size ≤ 9223372036854775807) (w : World) (h : LaidP w) :
    Calls Tryd.prog 6 #[.string s] w fun e w' => e = .returned (.bool true) ∧ Below w.heap.size w w' := by
  by_cases hs : s.size ≤ 1000
  · cases hR : right s.data.toList
    · exact walk_no s hs hR w h
    · exact walk_yes s hs hR w h
  · have A := awake_any w h
    clear h
    have hs' : 1000 < s.size := by omega
    go_enter Tryd.func6, Tryd.ntmps6
    go_wp2_with (go_at_call 9; refine A.mono ?_; rintro e w1 ⟨rfl, hb⟩; have HB := Lib.hid hb; clear hb)
    go_ret
    exact ⟨rfl, HB.out⟩
end pathPartsw
end Go.Proofs.YtgoekfonbpffdabDoor
