/-
  The walk of VersionBest: for every list of texts it returns true; nothing old turns.
-/
import Derived.Test.YtldmlcgdolfidaaDoorVAwake
import Derived.Deep.RegionHeld3
namespace Go.Proofs.YtldmlcgdolfidaaDoor.versionBestw
open Go.RowKit
set_option maxRecDepth 100000 in
set_option maxHeartbeats 8000000 in
theorem walk (v : Value) (ls : List Bs) (hl : ls.length ≤ 9223372036854775807) (hs : ∀ x ∈ ls, x.length ≤ 9223372036854775807) (w : World) (h : HoldT w v ls) (hlv : LaidV w) :
    Calls Tryd.prog 8 #[v] w fun e' w' => e' = .returned (.bool true) ∧ Below w.heap.size w w' := by
  have HLW := Lib.hid hlv
  clear hlv
  have AW := fun (w : World) (hw : LaidV w) => vawake w hw
  by_cases h40 : 40 < ls.length
  · obtain ⟨a, c, b, o, rfl, hc, ha, hcell⟩ := h
    generalize ls.length = n at *
    clear hcell ha hs
    go_enter Tryd.func8, Tryd.ntmps8
    go_wp2_with (first | (go_at_call 9; refine (AW _ (by first | exact Hid.out (by assumption) | exact LaidV.al (by assumption) _ | exact LaidV.dr (by assumption) _ | exact HLW.out.on (Hid.out (by assumption)) | exact HLW.out.on (belowQ (Hid.out (by assumption)) _) | exact HLW.out.on (Hid.out (by assumption)).drew)).mono ?_; rintro e w1 ⟨rfl, hb⟩; have HLX := Lib.hid (LaidV.on (by first | exact Hid.out (by assumption) | exact LaidV.al (by assumption) _ | exact LaidV.dr (by assumption) _ | exact HLW.out.on (Hid.out (by assumption)) | exact HLW.out.on (belowQ (Hid.out (by assumption)) _) | exact HLW.out.on (Hid.out (by assumption)).drew) hb); have HB := Lib.hid hb; clear hb))
    go_ret
    exact ⟨rfl, HB.out⟩
  · have B := fun (hx : ∀ l ∈ ls, l.length ≤ 200) w h hw => best_any v ls (by omega) hx w h hw
    have CC := fun (x y : ByteArray) (hx : x.size ≤ 1000) (hy : y.size ≤ 1000) (w : World) (hw : LaidV w) => compare_any x y hx hy w hw
    have HH := Lib.hid h
    obtain ⟨a, c, b, o, rfl, hc, ha, hcell⟩ := h
    have HCL := Lib.hid hcell
    have HS := Lib.hid hs
    generalize hN : ls.length = n at *
    clear hcell hs
    go_enter Tryd.func8, Tryd.ntmps8
    go_wp2
    go_loop [3] (fun i => ∃ k : Nat, k ≤ n ∧ i = .int .i64 k ∧ Hid (∀ (j : Nat) (h : j < ls.length), j < k → ls[j].length ≤ 200)) (fun i => n - (intOf i).toNat)
    case atStart => exact ⟨0, by omega, rfl, Lib.hid (fun j h g => by omega)⟩
    case round =>
      obtain ⟨k, hk, rfl, H⟩ := hrel
      by_cases hlt : k < n
      · obtain ⟨rfl, hbw⟩ := ha (by omega)
        obtain ⟨x, hx, hcx⟩ : ∃ x : ByteArray, x.data.toList = ls[k] ∧ w.cell? ⟨b, o + k, none⟩ = some (.string x) := ⟨⟨(ls[k]).toArray⟩, by simp, HCL.out k _ (List.getElem?_eq_getElem (by omega))⟩
        have hxs : x.size ≤ 9223372036854775807 := by rw [sizeOf, hx]; exact HS.out _ (List.getElem_mem _)
        by_cases h200 : 200 < x.size
        · clear hx B CC
          go_wp2_with (first | (go_at_call 9; refine (AW _ (by first | exact Hid.out (by assumption) | exact LaidV.al (by assumption) _ | exact LaidV.dr (by assumption) _ | exact HLW.out.on (Hid.out (by assumption)) | exact HLW.out.on (belowQ (Hid.out (by assumption)) _) | exact HLW.out.on (Hid.out (by assumption)).drew)).mono ?_; rintro e w1 ⟨rfl, hb⟩; have HLX := Lib.hid (LaidV.on (by first | exact Hid.out (by assumption) | exact LaidV.al (by assumption) _ | exact LaidV.dr (by assumption) _ | exact HLW.out.on (Hid.out (by assumption)) | exact HLW.out.on (belowQ (Hid.out (by assumption)) _) | exact HLW.out.on (Hid.out (by assumption)).drew) hb); have HB := Lib.hid hb; clear hb))
          go_ret
          exact ⟨rfl, HB.out⟩
        · have HN : Hid (∀ (j : Nat) (h : j < ls.length), j < k + 1 → ls[j].length ≤ 200) := Lib.hid (fun j h g => by
            by_cases e : j = k
            · subst e; rw [← hx, ← sizeOf]; omega
            · exact H.out j h (by omega))
          clear hx B CC
          go_wp2
          go_round
          case rel => exact ⟨k + 1, by omega, by go_num, HN⟩
          case measure => simp [intOf]; omega
      · obtain rfl : k = n := by omega
        have hall : ∀ l ∈ ls, l.length ≤ 200 := fun l hl => by
          obtain ⟨j, hj, rfl⟩ := List.mem_iff_getElem.1 hl
          exact H.out j hj (by omega)
        have BB := B hall
        have HA := Lib.hid hall
        clear B hall H hlt
        go_wp2_with (first | (go_at_call 20; refine (BB _ HH.out HLW.out).mono ?_; rintro e w1 ⟨z, rfl, hz, hb⟩; have HLX := Lib.hid (HLW.out.on hb); have HB := Lib.hid hb; have HZ := Lib.hid hz; clear hb hz BB; refine Hid.out ?_))
        refine Lib.hid ?_
        rcases HZ.out with ⟨hnil, hz⟩ | ⟨t, hz, ht, hbest⟩
        · subst hz
          have h0 : k = 0 := by rw [← hN, hnil]; rfl
          subst h0
          clear HZ hnil
          go_wp2_with (first | (go_at_call 9; refine (AW _ (by first | exact Hid.out (by assumption) | exact LaidV.al (by assumption) _ | exact LaidV.dr (by assumption) _ | exact HLW.out.on (Hid.out (by assumption)) | exact HLW.out.on (belowQ (Hid.out (by assumption)) _) | exact HLW.out.on (Hid.out (by assumption)).drew)).mono ?_; rintro e w2 ⟨rfl, hb⟩; have HLX := Lib.hid (LaidV.on (by first | exact Hid.out (by assumption) | exact LaidV.al (by assumption) _ | exact LaidV.dr (by assumption) _ | exact HLW.out.on (Hid.out (by assumption)) | exact HLW.out.on (belowQ (Hid.out (by assumption)) _) | exact HLW.out.on (Hid.out (by assumption)).drew) hb); have HB2 := Lib.hid hb; clear hb))
          go_ret
          exact ⟨rfl, HB.out.trans (HB2.out.mono HB.out.size)⟩
        · subst hz
          have HT := Lib.hid hbest
          have htn : t < k := by omega
          obtain ⟨rfl, hbw⟩ := ha (by omega)
          have hk0 : ((k : Int) == 0) = false := by rw [beq_eq_false_iff_ne]; omega
          clear hbest HZ
          go_wp2
          go_loopw [5] (fun i wr => ∃ j : Nat, j ≤ k ∧ i = .int .i64 j ∧ Hid (Below w.heap.size w wr)) (fun i _ => k - (intOf i).toNat)
          case atStart => exact ⟨0, by omega, rfl, HB⟩
          case round =>
            obtain ⟨j, hj, rfl, HBW⟩ := hrel
            have HLD : Hid (LaidV wr.drew) := Lib.hid (HLW.out.on HBW.out.drew)
            by_cases hjk : j < k
            · obtain ⟨x, hx, hcx⟩ : ∃ x : ByteArray, x.data.toList = ls[j] ∧ wr.cell? ⟨b, o + j, none⟩ = some (.string x) := ⟨⟨(ls[j]).toArray⟩, by simp, (HBW.out.cell (p := ⟨b, o + j, none⟩) hbw).trans (HCL.out j _ (List.getElem?_eq_getElem (by omega)))⟩
              obtain ⟨y, hy, hcy⟩ : ∃ y : ByteArray, y.data.toList = ls[t] ∧ wr.cell? ⟨b, o + t, none⟩ = some (.string y) := ⟨⟨(ls[t]).toArray⟩, by simp, (HBW.out.cell (p := ⟨b, o + t, none⟩) hbw).trans (HCL.out t _ (List.getElem?_eq_getElem (by omega)))⟩
              have C := CC x y (by rw [sizeOf, hx]; have := HA.out _ (List.getElem_mem (l := ls) (n := j) (by omega)); omega) (by rw [sizeOf, hy]; have := HA.out _ (List.getElem_mem (l := ls) (n := t) (by omega)); omega)
              have hb := HT.out j (by omega)
              rw [← hx, ← hy] at hb
              have hv := compareV_good.vals x.data.toList y.data.toList
              generalize compareV x.data.toList y.data.toList = c at *
              obtain ⟨hb1, hb2⟩ := hb
              have HB2 := Lib.hid hb2
              have hcb : -1 ≤ c := by omega
              clear hv hb2 hx hy CC
              by_cases hc0 : c = 0
              · have htj : ¬ j < t := by have := HB2.out hc0; omega
                subst hc0
                clear HB2
                go_wp2
                go_region_with ((go_at_call 13; refine (C _ HLD.out).mono ?_; rintro e w2 ⟨rfl, hb⟩; have HLX := Lib.hid (LaidV.on (by first | exact Hid.out (by assumption) | exact LaidV.al (by assumption) _ | exact LaidV.dr (by assumption) _ | exact HLW.out.on (Hid.out (by assumption)) | exact HLW.out.on (belowQ (Hid.out (by assumption)) _) | exact HLW.out.on (Hid.out (by assumption)).drew) hb); have HBN : Hid (Below w.heap.size w w2) := Lib.hid (by first | exact HBW.out.trans (hb.mono HBW.out.size) | exact (belowQ HBW.out _).trans (hb.mono HBW.out.size)); clear hb))
                all_goals
                  go_wp2
                  go_roundw
                  case rel => exact ⟨j + 1, by omega, by go_num, HBN⟩
                  case measure => simp [intOf]; omega
              · have hc1 : c = -1 := by omega
                subst hc1
                clear HB2
                go_wp2
                go_region_with ((go_at_call 13; refine (C _ HLD.out).mono ?_; rintro e w2 ⟨rfl, hb⟩; have HLX := Lib.hid (LaidV.on (by first | exact Hid.out (by assumption) | exact LaidV.al (by assumption) _ | exact LaidV.dr (by assumption) _ | exact HLW.out.on (Hid.out (by assumption)) | exact HLW.out.on (belowQ (Hid.out (by assumption)) _) | exact HLW.out.on (Hid.out (by assumption)).drew) hb); have HBN : Hid (Below w.heap.size w w2) := Lib.hid (by first | exact HBW.out.trans (hb.mono HBW.out.size) | exact (belowQ HBW.out _).trans (hb.mono HBW.out.size)); clear hb))
                all_goals
                  go_wp2
                  go_roundw
                  case rel => exact ⟨j + 1, by omega, by go_num, HBN⟩
                  case measure => simp [intOf]; omega
            · obtain rfl : j = k := by omega
              clear CC HT hjk
              go_wp2_with (first | (go_at_call 9; refine (AW _ (by first | exact Hid.out (by assumption) | exact LaidV.al (by assumption) _ | exact LaidV.dr (by assumption) _ | exact HLW.out.on (Hid.out (by assumption)) | exact HLW.out.on (belowQ (Hid.out (by assumption)) _) | exact HLW.out.on (Hid.out (by assumption)).drew)).mono ?_; rintro e w2 ⟨rfl, hb⟩; have HLX := Lib.hid (LaidV.on (by first | exact Hid.out (by assumption) | exact LaidV.al (by assumption) _ | exact LaidV.dr (by assumption) _ | exact HLW.out.on (Hid.out (by assumption)) | exact HLW.out.on (belowQ (Hid.out (by assumption)) _) | exact HLW.out.on (Hid.out (by assumption)).drew) hb); have HB2 := Lib.hid hb; clear hb))
              go_ret
              exact ⟨rfl, HBW.out.trans (HB2.out.mono HBW.out.size)⟩
end Go.Proofs.YtldmlcgdolfidaaDoor.versionBestw
