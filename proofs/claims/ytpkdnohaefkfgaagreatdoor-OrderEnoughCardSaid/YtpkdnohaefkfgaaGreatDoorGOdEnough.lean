/-
  The closure that says whether a record lacks nothing: what it returns; nothing old turns. Condition: LaidV.
-/
import Derived.Test.YtpkdnohaefkfgaaGreatDoorGOdKey
import Derived.Test.YtpkdnohaefkfgaaGreatDoorGUKey
import Derived.Deep.RegionHeld3
import Derived.Deep.AppendLies
import Derived.Deep.RegionLaw
namespace Go.Proofs.YtpkdnohaefkfgaaGreatDoor
open Go.RowKit Go.Shelf
theorem there_take {l : List Uv} {k : Nat} {x : Uv} (h : l[k]? = some x) : thereU (l.take (k + 1)) = thereU (l.take k) ++ (if isThere x.st = true then [relU x] else []) := by
  unfold thereU
  rw [List.take_add_one, h, List.filter_append, List.map_append]
  congr 1
  by_cases g : isThere x.st = true <;> simp [g]
theorem there_len (l : List Uv) : (thereU l).length ≤ l.length := by
  unfold thereU; rw [List.length_map]; exact List.length_filter_le _ _
set_option maxRecDepth 100000 in
set_option maxHeartbeats 8000000 in
theorem there_any (v : Value) (l : List Uv) (hl : l.length ≤ 90000) (w : World) (h : HoldU w v l) : Calls Tryz.prog 29 #[v] w fun e w' => ∃ r, e = .returned r ∧ OwnQ w' w.heap.size r (thereU l) ∧ Below w.heap.size w w' := by
  have HIN := Lib.hid h.2
  obtain ⟨a, c, b, o, rfl, hc, ha, hcell⟩ := h.parts
  obtain ⟨i0, hi, hz0, hz1, hz2'⟩ := info_parts infoQ
  have HC := Lib.hid hcell
  obtain ⟨n, hN⟩ : ∃ n, l.length = n := ⟨_, rfl⟩
  rw [hN] at hc ha hl ⊢
  have HN := Lib.hid hN
  clear hcell hN h
  go_enter Tryz.func29, Tryz.ntmps29
  go_wp2
  go_loopw [3, 8] (fun u i wr => ∃ (k : Nat), k ≤ n ∧ i = .int .i64 k ∧ Hid (OwnQ wr w.heap.size u (thereU (l.take k))) ∧ Hid (Below w.heap.size w wr)) (fun _ i _ => n - (intOf i).toNat)
  case atStart => exact ⟨0, by omega, rfl, Lib.hid (by rw [List.take_zero]; exact OwnV.nil _ _ _ _), Lib.hid (Below.refl _ _)⟩
  case round =>
    obtain ⟨k, hk, rfl, HO, HB⟩ := hrel
    have hsz := HB.out.size
    by_cases hlt : k < n
    · obtain ⟨rfl, hbw⟩ := ha (by omega)
      obtain ⟨x, hx⟩ : ∃ x, l[k]? = some x := ⟨_, List.getElem?_eq_getElem (by rw [HN.out]; exact hlt)⟩
      have hm := List.mem_of_getElem? hx
      have htk := there_take hx
      have hlen : (thereU (l.take k)).length ≤ k := Nat.le_trans (there_len _) (by rw [List.length_take]; omega)
      obtain ⟨x0, x1, x2, x3, x4, x5, x6, x7, x8⟩ := HC.out k _ hx
      rw [← HB.out.cell (p := ⟨b, o + k * 9, none⟩) hbw] at x0
      rw [← HB.out.cell (p := ⟨b, o + k * 9 + 1, none⟩) hbw] at x1
      rw [← HB.out.cell (p := ⟨b, o + k * 9 + 2, none⟩) hbw] at x2
      rw [← HB.out.cell (p := ⟨b, o + k * 9 + 3, none⟩) hbw] at x3
      rw [← HB.out.cell (p := ⟨b, o + k * 9 + 4, none⟩) hbw] at x4
      rw [← HB.out.cell (p := ⟨b, o + k * 9 + 5, none⟩) hbw] at x5
      rw [← HB.out.cell (p := ⟨b, o + k * 9 + 6, none⟩) hbw] at x6
      rw [← HB.out.cell (p := ⟨b, o + k * 9 + 7, none⟩) hbw] at x7
      rw [← HB.out.cell (p := ⟨b, o + k * 9 + 8, none⟩) hbw] at x8
      obtain ⟨a3, n3, m3, q3⟩ := formU3 (HIN.out x hm)
      obtain ⟨a4, n4, m4, q4⟩ := formU4 (HIN.out x hm)
      obtain ⟨a5, n5, m5, q5⟩ := formU5 (HIN.out x hm)
      obtain ⟨a6, n6, m6, q6⟩ := formU6 (HIN.out x hm)
      obtain ⟨a7, n7, m7, q7⟩ := formU7 (HIN.out x hm)
      obtain ⟨a8, n8, m8, q8⟩ := formU8 (HIN.out x hm)
      simp only [q3, q4, q5, q6, q7, q8] at x3 x4 x5 x6 x7 x8
      obtain ⟨y0, y1, y2, y3, y4, y5, y6, y7, y8⟩ := boxV9 wr (.string (⟨x.nm.toArray⟩ : ByteArray)) (.string (⟨x.vr.toArray⟩ : ByteArray)) (.int .i64 x.st) (.slice a3 n3 m3) (.slice a4 n4 m4) (.slice a5 n5 m5) (.slice a6 n6 m6) (.slice a7 n7 m7) (.slice a8 n8 m8) 37
      have B2 := HB.out.alloc hsz (.cells #[.string (⟨x.nm.toArray⟩ : ByteArray), .string (⟨x.vr.toArray⟩ : ByteArray), .int .i64 x.st, .slice a3 n3 m3, .slice a4 n4 m4, .slice a5 n5 m5, .slice a6 n6 m6, .slice a7 n7 m7, .slice a8 n8 m8] 37)
      have b2 := (Below.refl wr.heap.size wr).alloc (Nat.le_refl _) (.cells #[.string (⟨x.nm.toArray⟩ : ByteArray), .string (⟨x.vr.toArray⟩ : ByteArray), .int .i64 x.st, .slice a3 n3 m3, .slice a4 n4 m4, .slice a5 n5 m5, .slice a6 n6 m6, .slice a7 n7 m7, .slice a8 n8 m8] 37)
      have HO2 := Lib.hid (OwnV.on HO.out b2)
      have HXX : Hid ((⟨x.nm.toArray⟩ : ByteArray).data.toList = x.nm ∧ (⟨x.vr.toArray⟩ : ByteArray).data.toList = x.vr) := Lib.hid ⟨by simp, by simp⟩
      have HR : Hid (relU x = (x.nm, [], x.vr)) := Lib.hid rfl
      obtain ⟨T, hT⟩ : ∃ T, thereU (l.take k) = T := ⟨_, rfl⟩
      rw [hT] at htk hlen HO2
      have HTK := Lib.hid htk
      obtain ⟨z, hz⟩ : ∃ z, x.st = z := ⟨_, rfl⟩
      rw [hz] at x2 y0 y1 y2 y3 y4 y5 y6 y7 y8 B2 HO2 HTK
      generalize (⟨x.nm.toArray⟩ : ByteArray) = X0 at *
      generalize (⟨x.vr.toArray⟩ : ByteArray) = X1 at *
      have HB2 := Lib.hid B2
      clear hx hm hT htk HO q3 q4 q5 q6 q7 q8 B2 b2 hz
      by_cases hz : isThere z = true
      · have HT2 : Hid (thereU (l.take (k + 1)) = T ++ [(x.nm, [], x.vr)]) := Lib.hid (by rw [HTK.out, if_pos hz])
        have hz2 : (z == 7) = true ∨ ((z == 7) = false ∧ (z == 6) = true) := by
          unfold isThere at hz
          rw [Bool.or_eq_true, decide_eq_true_eq, decide_eq_true_eq] at hz
          rcases hz with g | g
          · exact .inl (by rw [g]; rfl)
          · exact .inr ⟨by rw [g]; rfl, by rw [g]; rfl⟩
        have HL3 : Hid ((T ++ [(x.nm, ([] : Bs), x.vr)]).length ≤ 90000) := Lib.hid (by simp; omega)
        clear HTK hz
        rcases hz2 with g7 | ⟨g7, g6⟩
        all_goals
          go_wp2_with (at_builtin; refine wpList_append_own _ rfl _ _ 27 rfl w.heap.size 41 i0 _ 3 48 Tryz.underlying27 hi hz0 hz1 hz2' rfl (by decide) _ _ _ rfl (World.ownsRow.alloc HO2.out.2 _) ⟨wr.heap.size + 1, 0, none⟩ 1 1 [.string X0, .string ⟨#[]⟩, .string X1] rfl rfl ?c1 ?c2 ?c3 ?c4 ?c5 ?_)
          case c2 => exact ⟨rfl, rfl, rfl⟩
          case c3 => unfold maxLen; omega
          case c4 => omega
          case c5 => omega
          intro v' w4 hown' hgrow _
          have HO4 : Hid (OwnQ w4 w.heap.size v' (T ++ [(x.nm, [], x.vr)])) := Lib.hid (OwnQ.app (x := (x.nm, [], x.vr)) HXX.out.1 rfl HXX.out.2 (by simpa using hown'))
          have HB4 : Hid (Below w.heap.size w w4) := Lib.hid (OwnV.below HB2.out HO2.out hgrow (Nat.le_refl _) HB2.out.size)
          have HO5 : Hid (OwnQ w4 w.heap.size v' (thereU (l.take (k + 1)))) := Lib.hid (by rw [HT2.out]; exact HO4.out)
          clear hown' hgrow
          go_wp2
          go_roundw
          case rel => exact ⟨k + 1, by omega, by go_num, HO5, HB4⟩
          case measure => simp [intOf]; omega
      · have HT2 : Hid (thereU (l.take (k + 1)) = T) := Lib.hid (by rw [HTK.out, if_neg hz, List.append_nil])
        have g7 : (z == 7) = false := by
          unfold isThere at hz
          rw [Bool.not_eq_true, Bool.or_eq_false_iff, decide_eq_false_iff_not, decide_eq_false_iff_not] at hz
          simpa using hz.1
        have g6 : (z == 6) = false := by
          unfold isThere at hz
          rw [Bool.not_eq_true, Bool.or_eq_false_iff, decide_eq_false_iff_not, decide_eq_false_iff_not] at hz
          simpa using hz.2
        have HO5 := HO2
        rw [← HT2.out] at HO5
        clear HTK hz HO2
        go_wp2
        go_roundw
        case rel => exact ⟨k + 1, by omega, by go_num, HO5, HB2⟩
        case measure => simp [intOf]; omega
    · obtain rfl : k = n := by omega
      have HFE : Hid (thereU (l.take k) = thereU l) := Lib.hid (by rw [List.take_of_length_le (by rw [HN.out]; omega)])
      clear hlt
      go_wp2
      go_ret
      exact ⟨_, rfl, by have := HO.out; rw [HFE.out] at this; exact this, HB.out⟩
theorem news3Q {w : World} (X Y : ByteArray) (t : TypeId) : ∀ j u, [Value.string X, .string ⟨#[]⟩, .string Y][j]? = some u → (w.alloc (.cells #[.string X, .string ⟨#[]⟩, .string Y] t)).cell? ((⟨w.heap.size, 0, none⟩ : Addr).add j) = some u := by
  intro j u hj
  match j, hj with
  | 0, hj => cases hj; simp [Addr.add, World.cell?_alloc_new]
  | 1, hj => cases hj; simp [Addr.add, World.cell?_alloc_new]
  | 2, hj => cases hj; simp [Addr.add, World.cell?_alloc_new]
  | j + 3, hj => simp at hj
set_option maxRecDepth 100000 in
set_option maxHeartbeats 8000000 in
theorem there_ref (v : Value) (l : List Uv) (hl : l.length ≤ 90000) (w : World) (h : HoldU w v l) : Calls Tryz.prog 7 #[v] w fun e w' => ∃ r, e = .returned r ∧ OwnQ w' w.heap.size r (thereU l) ∧ Below w.heap.size w w' := by
  obtain ⟨a, c, b, o, rfl, hc, ha, hcell⟩ := h.parts
  obtain ⟨i0, hi, hz0, hz1, hz2'⟩ := info_parts infoQ
  have HC := Lib.hid hcell
  obtain ⟨n, hN⟩ : ∃ n, l.length = n := ⟨_, rfl⟩
  rw [hN] at hc ha hl ⊢
  have HN := Lib.hid hN
  clear hcell hN h
  go_enter Tryz.func7, Tryz.ntmps7
  go_wp2
  go_loopw [3, 4] (fun u i wr => ∃ (k : Nat), k ≤ n ∧ i = .int .i64 k ∧ Hid (OwnQ wr w.heap.size u (thereU (l.take k))) ∧ Hid (Below w.heap.size w wr)) (fun _ i _ => n - (intOf i).toNat)
  case atStart => exact ⟨0, by omega, rfl, Lib.hid (by rw [List.take_zero]; exact OwnV.nil _ _ _ _), Lib.hid (Below.refl _ _)⟩
  case round =>
    obtain ⟨k, hk, rfl, HO, HB⟩ := hrel
    have hsz := HB.out.size
    by_cases hlt : k < n
    · obtain ⟨rfl, hbw⟩ := ha (by omega)
      obtain ⟨x, hx⟩ : ∃ x, l[k]? = some x := ⟨_, List.getElem?_eq_getElem (by rw [HN.out]; exact hlt)⟩
      have htk := there_take hx
      have hlen : (thereU (l.take k)).length ≤ k := Nat.le_trans (there_len _) (by rw [List.length_take]; omega)
      obtain ⟨x0, x1, x2, -⟩ := HC.out k _ hx
      rw [← HB.out.cell (p := ⟨b, o + k * 9, none⟩) hbw] at x0
      rw [← HB.out.cell (p := ⟨b, o + k * 9 + 1, none⟩) hbw] at x1
      rw [← HB.out.cell (p := ⟨b, o + k * 9 + 2, none⟩) hbw] at x2
      have HXX : Hid ((⟨x.nm.toArray⟩ : ByteArray).data.toList = x.nm ∧ (⟨x.vr.toArray⟩ : ByteArray).data.toList = x.vr) := Lib.hid ⟨by simp, by simp⟩
      obtain ⟨T, hT⟩ : ∃ T, thereU (l.take k) = T := ⟨_, rfl⟩
      rw [hT] at htk hlen HO
      have HTK := Lib.hid htk
      obtain ⟨z, hz⟩ : ∃ z, x.st = z := ⟨_, rfl⟩
      rw [hz] at x2 HTK
      generalize (⟨x.nm.toArray⟩ : ByteArray) = X0 at *
      generalize (⟨x.vr.toArray⟩ : ByteArray) = X1 at *
      have j0 : (0 : Int) ≤ (k : Int) := by omega
      have j1 : (k : Int) < (n : Int) := by omega
      clear hx hT htk hz
      by_cases hz : isThere z = true
      · have HT2 : Hid (thereU (l.take (k + 1)) = T ++ [(x.nm, [], x.vr)]) := Lib.hid (by rw [HTK.out, if_pos hz])
        have hz2 : (z == 7) = true ∨ ((z == 7) = false ∧ (z == 6) = true) := by
          unfold isThere at hz
          rw [Bool.or_eq_true, decide_eq_true_eq, decide_eq_true_eq] at hz
          rcases hz with g | g
          · exact .inl (by rw [g]; rfl)
          · exact .inr ⟨by rw [g]; rfl, by rw [g]; rfl⟩
        have HLT : Hid (T.length ≤ k) := Lib.hid hlen
        obtain ⟨ua, uc, -, -, hv, -⟩ := HO.out.holds
        rw [List.length_map] at hv
        subst hv
        have HOA : Hid (OwnQ (wr.alloc (.cells #[.string X0, .string ⟨#[]⟩, .string X1] 41)).drew w.heap.size (.slice ua T.length uc) T) := Lib.hid (OwnV.on HO.out ((Below.refl _ _).alloc (Nat.le_refl _) _).drew)
        have HNW : Hid (∀ j u, [Value.string X0, .string ⟨#[]⟩, .string X1][j]? = some u → (wr.alloc (.cells #[.string X0, .string ⟨#[]⟩, .string X1] 41)).drew.cell? ((⟨wr.heap.size, 0, none⟩ : Addr).add j) = some u) := Lib.hid (fun j u hj => news3Q (w := wr) X0 X1 _ j u hj)
        have HBF : Hid (Below w.heap.size w (wr.alloc (.cells #[.string X0, .string ⟨#[]⟩, .string X1] 41)).drew) := Lib.hid (HB.out.alloc HB.out.size _).drew
        clear HTK hz HO hlen
        rcases hz2 with g7 | ⟨g7, g6⟩
        all_goals
          go_wp2
          go_region_law (refine step_append_lies _ rfl _ _ 27 rfl w.heap.size 41 i0 _ 3 48 Tryz.underlying27 hi hz0 hz1 hz2' rfl (by decide) _ _ _ rfl HOA.out.2 ⟨wr.heap.size, 0, none⟩ 1 1 [.string X0, .string ⟨#[]⟩, .string X1] rfl rfl HNW.out (by simp [Value.oneCell']) (by decide) (by have := HLT.out; unfold maxLen; simp; omega) (by have := HLT.out; simp; omega) (by simp; omega) _ rfl ?_; intro g cap w6 hown' hgrow h4 h5; have HO6 : Hid (OwnQ w6 w.heap.size _ (T ++ [(x.nm, [], x.vr)])) := Lib.hid (OwnQ.app (x := (x.nm, [], x.vr)) HXX.out.1 rfl HXX.out.2 (by simpa using hown')); have HG6 := Lib.hid hgrow; clear hown' hgrow h4 h5)
          all_goals
            have HO7 := HO6
            rw [← HT2.out] at HO7
            have HB6 : Hid (Below w.heap.size w w6) := Lib.hid (HBF.out.grown HG6.out HBF.out.size (fun k hk => by have := (World.ownsRow.lt HOA.out.2 k hk).1; omega))
            clear HG6 HOA HNW HBF HO6
            go_wp2
            go_roundw
            case rel => exact ⟨k + 1, by omega, by go_num, HO7, HB6⟩
            case measure => simp [intOf]; omega
      · have HT2 : Hid (thereU (l.take (k + 1)) = T) := Lib.hid (by rw [HTK.out, if_neg hz, List.append_nil])
        have g7 : (z == 7) = false := by
          unfold isThere at hz
          rw [Bool.not_eq_true, Bool.or_eq_false_iff, decide_eq_false_iff_not, decide_eq_false_iff_not] at hz
          simpa using hz.1
        have g6 : (z == 6) = false := by
          unfold isThere at hz
          rw [Bool.not_eq_true, Bool.or_eq_false_iff, decide_eq_false_iff_not, decide_eq_false_iff_not] at hz
          simpa using hz.2
        have HO5 := HO
        rw [← HT2.out] at HO5
        clear HTK hz HO
        go_wp2
        go_roundw
        case rel => exact ⟨k + 1, by omega, by go_num, HO5, HB⟩
        case measure => simp [intOf]; omega
    · obtain rfl : k = n := by omega
      have HFE : Hid (thereU (l.take k) = thereU l) := Lib.hid (by rw [List.take_of_length_le (by rw [HN.out]; omega)])
      clear hlt
      go_wp2
      go_ret
      exact ⟨_, rfl, by have := HO.out; rw [HFE.out] at this; exact this, HB.out⟩
end Go.Proofs.YtpkdnohaefkfgaaGreatDoor
namespace Go.Proofs.YtpkdnohaefkfgaaGreatDoor
open Go.RowKit Go.Shelf
theorem small_right {x : Uv} (h : rightU x = true) : SmallG x.dp ∧ x.dp.length ≤ 64 := by
  unfold rightU at h
  simp only [Bool.and_eq_true, decide_eq_true_eq] at h
  have hd := h.1.2.1
  unfold allE at hd
  split at hd
  · cases hd
  · rename_i h64
    split at hd
    · cases hd
    · rename_i hb
      have h64 := Bool.not_eq_true _ ▸ h64
      rw [Bool.or_eq_false_iff, decide_eq_false_iff_not] at h64
      refine ⟨fun g hg => ?_, by have := h64.1; rw [List.length_map] at this; omega⟩
      have hm : g.1 ∈ fsts x.dp := List.mem_map_of_mem hg
      have hb1 : badG g.1 = false := by
        rw [Bool.not_eq_true, List.any_eq_false] at hb
        simpa using hb g.1 hm
      have hl1 : longG g.1 = false := by
        have := h64.2
        rw [List.any_eq_false] at this
        simpa using this g.1 hm
      have hr := goodG_right (g := g.1) (by rw [hb1]; simp)
      unfold longG at hl1
      have h6 := of_decide_eq_false hl1
      exact ⟨smallQ_right hr, by omega⟩
set_option maxRecDepth 100000 in
set_option maxHeartbeats 8000000 in
theorem enough_any (x : Uv) (hr : rightU x = true) (g : Nat) (t : List Rl) (tv : Value) (ht : t.length ≤ 90000) (hst : SmallQ t) (w : World) (hx : InU w x) (hc : w.cell? ⟨g, 0, none⟩ = some tv) (h2 : HoldQ w tv t) (hL : LaidV w) : Calls Tryz.prog 30 #[agZU x, .pointer (some ⟨g, 0, none⟩)] w fun e w' => e = .returned (.bool (enoughB t x)) ∧ Below w.heap.size w w' := by
  obtain ⟨sg, sl⟩ := small_right hr
  have B0 := (Below.refl w.heap.size w).alloc (Nat.le_refl _) (.cells #[.string (⟨x.nm.toArray⟩ : ByteArray), .string (⟨x.vr.toArray⟩ : ByteArray), .int .i64 x.st, x.dv, x.cv, x.rv, x.fv, x.pv, x.av] 37)
  have LK := lacks_any x.dv tv x.dp (by omega) sg t ht hst _ ((hx.on B0).dp) (HoldV.on h2 B0) (hL.on B0)
  have hc0 := (B0.cell (p := ⟨g, 0, none⟩) (World.block_lt_of_cell? w _ hc)).trans hc
  obtain ⟨a3, n3, m3, q3⟩ := formU3 hx
  obtain ⟨a4, n4, m4, q4⟩ := formU4 hx
  obtain ⟨a5, n5, m5, q5⟩ := formU5 hx
  obtain ⟨a6, n6, m6, q6⟩ := formU6 hx
  obtain ⟨a7, n7, m7, q7⟩ := formU7 hx
  obtain ⟨a8, n8, m8, q8⟩ := formU8 hx
  obtain ⟨ta, tc, -, -, htv, -⟩ := h2
  rw [List.length_map] at htv
  subst htv
  unfold agZU
  simp only [q3, q4, q5, q6, q7, q8] at LK B0 hc0 ⊢
  have HE : Hid ((((lackN t x : Nat) : Int) == 0) = enoughB t x) := Lib.hid (by
    unfold enoughB
    cases lackN t x with
    | zero => rfl
    | succ k => simp; omega)
  obtain ⟨y0, y1, y2, y3, y4, y5, y6, y7, y8⟩ := boxV9 w (.string (⟨x.nm.toArray⟩ : ByteArray)) (.string (⟨x.vr.toArray⟩ : ByteArray)) (.int .i64 x.st) (.slice a3 n3 m3) (.slice a4 n4 m4) (.slice a5 n5 m5) (.slice a6 n6 m6) (.slice a7 n7 m7) (.slice a8 n8 m8) 37
  generalize (⟨x.nm.toArray⟩ : ByteArray) = X0 at *
  generalize (⟨x.vr.toArray⟩ : ByteArray) = X1 at *
  generalize x.st = st at *
  obtain ⟨N, hN⟩ : ∃ N, lackN t x = N := ⟨_, rfl⟩
  have HB0 := Lib.hid B0
  have LK2 := LK.mono (R' := fun e w' => (∃ a c, e = .returned (.slice a N c)) ∧ Below w.heap.size w w') (fun e w' ⟨r, he, ho, hb⟩ => by
    obtain ⟨a, c, -, -, hv, -⟩ := ho.holds
    rw [List.length_map] at hv
    exact ⟨⟨a, c, by rw [he, hv, ← hN]; rfl⟩, HB0.out.trans (hb.mono HB0.out.size)⟩)
  rw [hN] at HE
  clear LK sg sl q3 q4 q5 q6 q7 q8 B0 hr hx hc hst hL hN
  go_enter Tryz.func30, Tryz.ntmps30
  go_wp2_with (go_at_call 31; (with_reducible refine LK2.mono ?_); rintro e w1 ⟨⟨a, c, rfl⟩, hb⟩; have HB1 := Lib.hid hb; clear hb)
  go_ret
  exact ⟨congrArg (fun b => Ending.returned (.bool b)) HE.out, HB1.out⟩
end Go.Proofs.YtpkdnohaefkfgaaGreatDoor
