/-
  The walk of PathSorts: for every list of texts it returns true; of what was there nothing has turned. Condition: LaidP.
-/
import Derived.Test.YtgoekfonbpffdabDoorPSorted
import Derived.Test.YtgoekfonbpffdabDoorPCleansWalk
namespace Go.Proofs.YtgoekfonbpffdabDoor.pathSortsw
open Go.RowKit Go.Sort
set_option maxRecDepth 100000 in
set_option maxHeartbeats 4000000 in
theorem walk_few (v : Value) (ls : List Bs) (hb : Bare v) (hlen : ls.length ≤ 60) (hsz : ∀ x ∈ ls, x.length ≤ 9223372036854775807) (w : World) (h : Holds' w v ls) (hL : LaidP w) :
    Calls Tryd.prog 8 #[v] w fun e w' => e = .returned (.bool true) ∧ Below w.heap.size w w' := by
  have C1 := sorted_any v ls hlen hb w h
  have C2 := fun w h => sorted_ref v ls hlen w h
  have hsl := srt_len ls
  have C3 := fun v hb w h => sorted_any v (srt ls) (by omega) hb w h
  rw [srt_again] at C3
  have hrise := srt_rise ls
  obtain ⟨ss, hss⟩ : ∃ ss, ss = srt ls := ⟨_, rfl⟩
  simp only [← hss] at C1 C2 C3 hsl hrise
  have HA := Lib.hid awake_any
  have HL := Lib.hid hL
  have HR := Lib.hid hrise
  have HC2 := Lib.hid C2
  have HC3 := Lib.hid C3
  have HH := Lib.hid h
  have HZ := Lib.hid hsz
  clear hss C2 C3 hrise hL hsz hb
  obtain ⟨a, c, b, o, rfl, hc, ha, hcell⟩ := h
  generalize hN : ls.length = n at *
  have HW := Lib.hid ha
  have HC := Lib.hid hcell
  clear ha hcell
  go_enter Tryd.func8, Tryd.ntmps8
  go_wp2
  go_loop [3] (fun i => ∃ k : Nat, k ≤ n ∧ i = .int .i64 k) (fun i => n - (intOf i).toNat)
  case atStart => exact ⟨0, Nat.zero_le _, rfl⟩
  case round =>
    obtain ⟨k, hk, rfl⟩ := hrel
    by_cases hlt : k < n
    · obtain ⟨rfl, hbw⟩ := HW.out (by omega)
      obtain ⟨x, hx, hcx⟩ : ∃ x : ByteArray, x.data.toList = ls[k] ∧ w.cell? ⟨b, o + k, none⟩ = some (.string x) := ⟨⟨(ls[k]).toArray⟩, by simp, HC.out k _ (List.getElem?_eq_getElem (by omega))⟩
      have hxs : x.size ≤ 9223372036854775807 := by rw [Lib.size_eq, hx]; exact HZ.out _ (List.getElem_mem _)
      clear hx
      by_cases hs : x.size ≤ 300
      · go_wp2
        go_round
        case rel => exact ⟨k + 1, by omega, by go_num⟩
        case measure => simp [intOf]; omega
      · have A := HA.out w HL.out
        have hs' : 300 < x.size := by omega
        clear hs
        go_wp2_with (go_at_call 9; refine A.mono ?_; rintro e w1 ⟨rfl, hb⟩; have HB := Lib.hid hb; clear hb)
        go_ret
        exact ⟨rfl, HB.out⟩
    · obtain rfl : k = n := by omega
      clear hlt
      go_wp2_with (go_at_call 28; refine C1.mono ?_; rintro e w1 ⟨v1, rfl, ho, hb⟩; have HO1 := Lib.hid ho; have HB1 := Lib.hid hb; clear ho hb; refine Hid.out ?_)
      have HH1 := Lib.hid HO1.out.holds
      have HN1 := Lib.hid HO1.out.bare
      obtain ⟨a', c', b', o', rfl, hc', ha', hcell'⟩ := HO1.out.holds
      have HC' := Lib.hid hcell'
      have HW' := Lib.hid ha'
      clear hcell' ha' C1
      generalize hM : ss.length = m at *
      refine Lib.hid ?_
      go_wp2
      go_loopw [5] (fun i wr => ∃ k : Nat, k ≤ m ∧ i = .int .i64 k ∧ Hid (Below w1.heap.size w1 wr)) (fun i _ => m - (intOf i).toNat)
      case atStart => exact ⟨0, Nat.zero_le _, rfl, Lib.hid (Below.refl _ _)⟩
      case round =>
        obtain ⟨k, hk, rfl, HX⟩ := hrel
        by_cases hlt : k < m
        · obtain ⟨rfl, hbw⟩ := HW'.out (by omega)
          obtain ⟨x, hx, hcx⟩ : ∃ x : ByteArray, x.data.toList = ss[k] ∧ wr.cell? ⟨b', o' + k, none⟩ = some (.string x) := ⟨⟨(ss[k]).toArray⟩, by simp, (HX.out.cell (p := ⟨b', o' + k, none⟩) hbw).trans (HC'.out k _ (List.getElem?_eq_getElem (by omega)))⟩
          by_cases hk0 : 0 < k
          · obtain ⟨y, hy, hcy⟩ : ∃ y : ByteArray, y.data.toList = ss[k - 1] ∧ wr.cell? ⟨b', o' + (k - 1), none⟩ = some (.string y) := ⟨⟨(ss[k - 1]).toArray⟩, by simp, (HX.out.cell (p := ⟨b', o' + (k - 1), none⟩) hbw).trans (HC'.out (k - 1) _ (List.getElem?_eq_getElem (by omega)))⟩
            have hb := less_text y x
            rw [hx, hy, decide_eq_true (by have := rise_next HR.out (k - 1) (by omega); simpa [show k - 1 + 1 = k by omega] using this)] at hb
            clear hx hy
            go_wp2
            go_quiet (fail)
            go_wp2
            go_roundw
            case rel => exact ⟨k + 1, by omega, by go_num, Lib.hid (below_drewN' HX.out _)⟩
            case measure => simp [intOf]; omega
          · have hd : decide (0 < k) = false := by simpa using hk0
            have hd2 : decide ((0 : Int) < (k : Int)) = false := by simpa using hk0
            clear hx hk0
            go_wp2
            go_quiet (fail)
            go_wp2
            go_roundw
            case rel => exact ⟨k + 1, by omega, by go_num, Lib.hid (below_drewN' HX.out _)⟩
            case measure => simp [intOf]; omega
        · obtain rfl : k = m := by omega
          have HX1 := Lib.hid (bfin HB1.out HX.out)
          have A1 := HC2.out wr (HH.out.on HX1.out)
          clear hlt
          go_wp2_with (go_at_call 29; refine A1.mono ?_; rintro e w2 ⟨v2, rfl, ho, hb⟩; have HH2 := Lib.hid ho.holds; have HB2 := Lib.hid (bfin HX.out hb); clear ho hb; refine Hid.out ?_)
          have A2 := same_yes _ v2 ss (by omega) w2 (HH1.out.on HB2.out) HH2.out
          clear A1
          refine Lib.hid ?_
          go_wp2_with (go_at_call 21; refine A2.mono ?_; rintro e w3 ⟨rfl, hb⟩; have HB3 := Lib.hid (bfin HB2.out hb); clear hb; refine Hid.out ?_)
          have A3 := HC3.out _ HN1.out w3 (HH1.out.on HB3.out)
          clear A2
          refine Lib.hid ?_
          go_wp2_with (go_at_call 28; refine A3.mono ?_; rintro e w4 ⟨v4, rfl, ho, hb⟩; have HH4 := Lib.hid ho.holds; have HB4 := Lib.hid (bfin HB3.out hb); clear ho hb; refine Hid.out ?_)
          have A4 := same_yes v4 _ ss (by omega) w4 HH4.out (HH1.out.on HB4.out)
          clear A3
          refine Lib.hid ?_
          go_wp2_with (go_at_call 21; refine A4.mono ?_; rintro e w5 ⟨rfl, hb⟩; have HB5 := Lib.hid (bfin HB1.out (bfin HB4.out hb)); clear hb; refine Hid.out ?_)
          have A5 := HA.out w5 (HL.out.on HB5.out)
          clear A4
          refine Lib.hid ?_
          go_wp2_with (go_at_call 9; refine A5.mono ?_; rintro e w6 ⟨rfl, hb⟩; have HB6 := Lib.hid (bfin HB5.out hb); clear hb)
          go_ret
          exact ⟨rfl, HB6.out⟩
theorem walk (v : Value) (ls : List Bs) (hb : Bare v) (hl : ls.length ≤ 9223372036854775807) (hsz : ∀ x ∈ ls, x.length ≤ 9223372036854775807) (w : World) (h : Holds' w v ls) (hL : LaidP w) :
    Calls Tryd.prog 8 #[v] w fun e w' => e = .returned (.bool true) ∧ Below w.heap.size w w' := by
  by_cases hlen : ls.length ≤ 60
  · exact walk_few v ls hb hlen hsz w h hL
  · have A := awake_any w hL
    obtain ⟨a, c, b, o, rfl, hc, ha, hcell⟩ := h
    have hs' : 60 < ls.length := by omega
    generalize ls.length = n at *
    clear hL ha hcell hb hsz hlen
    go_enter Tryd.func8, Tryd.ntmps8
    go_wp2_with (go_at_call 9; refine A.mono ?_; rintro e w1 ⟨rfl, hb⟩; have HB := Lib.hid hb; clear hb)
    go_ret
    exact ⟨rfl, HB.out⟩
end Go.Proofs.YtgoekfonbpffdabDoor.pathSortsw
