/-
  The selections of alternatives, by the program and by the reference: what each returns; nothing old turns.
-/
import Derived.Test.YtoipggglmpcjfaaDoorZHold
import Derived.Test.YtoipggglmpcjfaaDoorYHold
import Derived.Deep.AppendLies
import Derived.Deep.RegionLaw
namespace Go.Proofs.YtoipggglmpcjfaaDoor
open Go.RowKit
def selOf (x : Av) : Sl := (x.nm, x.mn, x.cr)
set_option maxRecDepth 100000 in
set_option maxHeartbeats 8000000 in
theorem of_any (v : Value) (l : List Av) (hl : l.length ≤ 90000) (w : World) (h : HoldA w v l) : Calls Tryd.prog 12 #[v] w fun e w' => ∃ v', e = .returned v' ∧ HoldY w' v' (l.map selOf) ∧ Below w.heap.size w w' := by
  obtain ⟨a, c, b, o, rfl, hc, ha, hcell⟩ := h.parts
  obtain ⟨i0, hi, hz0, hz1, hz2'⟩ := info_parts infoY
  have HC := Lib.hid hcell
  have HIN := Lib.hid h.2
  obtain ⟨n, hN⟩ : ∃ n, l.length = n := ⟨_, rfl⟩
  rw [hN] at hc ha hl ⊢
  have HN := Lib.hid hN
  clear hcell hN h
  go_enter Tryd.func12, Tryd.ntmps12
  go_wp2
  go_loopw [3, 8] (fun u i wr => ∃ k : Nat, k ≤ n ∧ i = .int .i64 k ∧ Hid (OwnY 44 wr w.heap.size u ((l.take k).map selOf)) ∧ Hid (Below w.heap.size w wr)) (fun _ i _ => n - (intOf i).toNat)
  case atStart => exact ⟨0, by omega, rfl, Lib.hid (OwnV.nil _ _ _ _), Lib.hid (Below.refl _ _)⟩
  case round =>
    obtain ⟨k, hk, rfl, HO, HB⟩ := hrel
    have hsz := HB.out.size
    by_cases hlt : k < n
    · obtain ⟨rfl, hbw⟩ := ha (by omega)
      obtain ⟨x, hx⟩ : ∃ x, l[k]? = some x := ⟨_, List.getElem?_eq_getElem (by rw [HN.out]; exact hlt)⟩
      obtain ⟨c0, c1, c2, c3, c4, c5⟩ := HC.out k _ hx
      rw [← HB.out.cell (p := ⟨b, o + k * 6, none⟩) hbw] at c0
      rw [← HB.out.cell (p := ⟨b, o + k * 6 + 1, none⟩) hbw] at c1
      rw [← HB.out.cell (p := ⟨b, o + k * 6 + 2, none⟩) hbw] at c2
      rw [← HB.out.cell (p := ⟨b, o + k * 6 + 3, none⟩) hbw] at c3
      rw [← HB.out.cell (p := ⟨b, o + k * 6 + 4, none⟩) hbw] at c4
      rw [← HB.out.cell (p := ⟨b, o + k * 6 + 5, none⟩) hbw] at c5
      obtain ⟨sa, sc, -, -, hsv, -⟩ := (HIN.out x (List.mem_of_getElem? hx)).1.parts
      obtain ⟨ca, cc, -, -, hcv, -⟩ := (HIN.out x (List.mem_of_getElem? hx)).2.parts
      rw [hsv] at c4
      rw [hcv] at c5
      have hlk : ((l.take k).map selOf).length = k := by rw [List.length_map, List.length_take, HN.out]; omega
      have hsn : (l.take (k + 1)).map selOf = (l.take k).map selOf ++ [(x.nm, x.mn, x.cr)] := by rw [List.take_add_one, hx, List.map_append]; rfl
      obtain ⟨ua, uc, hu⟩ := OwnV.form HO.out
      rw [List.length_map, hlk] at hu
      subst hu
      have HXX : Hid ((bsT x.nm).data.toList = x.nm) := Lib.hid (bytesOf _)
      have HUU : Hid ((bsT x.cr).data.toList = x.cr) := Lib.hid (bytesOf _)
      obtain ⟨cs, hcs⟩ : ∃ cs : List Value, (((l.take k).map selOf).map cellsY).flatten = cs := ⟨_, rfl⟩
      have HOK2 : Hid (wr.ownsRow w.heap.size 44 3 (.slice ua k uc) k cs) := Lib.hid (by have := HO.out.2; rw [List.length_map, hlk, hcs] at this; exact this)
      have HAPP : Hid (∀ v' w3, w3.ownsRow w.heap.size 44 3 v' (k + 1) (cs ++ [.string (bsT x.nm), .bool x.mn, .string (bsT x.cr)]) → OwnY 44 w3 w.heap.size v' ((l.take (k + 1)).map selOf)) := Lib.hid (fun v' w3 h => by
        rw [hsn]
        exact OwnY.app (x := (x.nm, x.mn, x.cr)) HXX.out HUU.out (by rw [hlk, hcs]; exact h))
      clear hx hlk hsn HO HXX HUU hcs
      obtain ⟨X, hX⟩ : ∃ X, bsT x.nm = X := ⟨_, rfl⟩
      obtain ⟨U, hU⟩ : ∃ U, bsT x.cr = U := ⟨_, rfl⟩
      obtain ⟨L, hL⟩ : ∃ L, bsT x.lk = L := ⟨_, rfl⟩
      have c0' : wr.cell? ⟨b, o + k * 6, none⟩ = some (.string X) := by rw [← hX]; exact c0
      have c1' : wr.cell? ⟨b, o + k * 6 + 1, none⟩ = some (.string L) := by rw [← hL]; exact c1
      have c3' : wr.cell? ⟨b, o + k * 6 + 3, none⟩ = some (.string U) := by rw [← hU]; exact c3
      rw [hX, hU] at HAPP
      clear c0 c1 c3 hX hU hL
      generalize x.mn = m at *
      clear hsv hcv
      generalize x.sl.length = sn at *
      generalize x.ch.length = cn at *
      have B3 := (Below.refl wr.heap.size wr).alloc (Nat.le_refl _) (.cells #[.string X, .string L, .bool m, .string U, .slice sa sn sc, .slice ca cn cc] 48)
      obtain ⟨x0, x1, x2, x3, x4, x5⟩ := boxV6 wr (.string X) (.string L) (.bool m) (.string U) (.slice sa sn sc) (.slice ca cn cc) 48
      have HB3 := Lib.hid (HB.out.trans (B3.mono hsz))
      have HO3 : Hid ((wr.alloc (.cells #[.string X, .string L, .bool m, .string U, .slice sa sn sc, .slice ca cn cc] 48)).ownsRow w.heap.size 44 3 (.slice ua k uc) k cs) := Lib.hid (World.ownsRow.alloc HOK2.out _)
      have hz3 := HB3.out.size
      clear B3 HOK2
      go_wp2_with (at_builtin; refine wpList_append_own _ rfl _ _ 22 rfl w.heap.size 44 i0 _ 3 40 Tryd.underlying22 hi hz0 hz1 hz2' rfl (by decide) _ _ _ rfl (World.ownsRow.alloc HO3.out _) ⟨wr.heap.size + 1, 0, none⟩ 1 1 [.string X, .bool m, .string U] rfl rfl ?c1 ?c2 ?c3 ?c4 ?c5 ?_)
      case c2 => exact ⟨rfl, rfl, rfl⟩
      case c3 => unfold maxLen; omega
      case c4 => omega
      case c5 => omega
      · intro v' w4 hown' hgrow _
        have HO4 := Lib.hid (HAPP.out _ _ hown')
        have HB4 : Hid (Below w.heap.size w w4) := Lib.hid ((HB3.out.alloc hz3 _).grown hgrow (by simp; omega) (fun k hk => by have := (World.ownsRow.lt HO3.out k hk).1; omega))
        clear hown' hgrow
        go_wp2
        go_roundw
        case rel => exact ⟨k + 1, by omega, by go_num, HO4, HB4⟩
        case measure => simp [intOf]; omega
    · obtain rfl : k = n := by omega
      have HO2 := HO.out
      rw [List.take_of_length_le (by rw [HN.out]; omega)] at HO2
      have HO3 := Lib.hid HO2.holds
      clear hlt HO HO2
      go_wp2
      go_ret
      exact ⟨_, rfl, HO3.out, HB.out⟩
set_option maxRecDepth 100000 in
set_option maxHeartbeats 8000000 in
theorem of_ref (v : Value) (l : List Av) (hl : l.length ≤ 90000) (w : World) (h : HoldA w v l) : Calls Tryd.prog 13 #[v] w fun e w' => ∃ v', e = .returned v' ∧ HoldY w' v' (l.map selOf) ∧ Below w.heap.size w w' := by
  obtain ⟨a, c, b, o, rfl, hc, ha, hcell⟩ := h.parts
  obtain ⟨i0, hi, hz0, hz1, hz2'⟩ := info_parts infoYr
  have HC := Lib.hid hcell
  obtain ⟨n, hN⟩ : ∃ n, l.length = n := ⟨_, rfl⟩
  rw [hN] at hc ha hl ⊢
  have HN := Lib.hid hN
  clear hcell hN h
  go_enter Tryd.func13, Tryd.ntmps13
  go_wp2
  go_loopw [3, 4] (fun u i wr => ∃ k : Nat, k ≤ n ∧ i = .int .i64 k ∧ Hid (OwnY 67 wr w.heap.size u ((l.take k).map selOf)) ∧ Hid (Below w.heap.size w wr)) (fun _ i _ => n - (intOf i).toNat)
  case atStart => exact ⟨0, by omega, rfl, Lib.hid (OwnV.nil _ _ _ _), Lib.hid (Below.refl _ _)⟩
  case round =>
    obtain ⟨k, hk, rfl, HO, HB⟩ := hrel
    obtain ⟨w2, rfl⟩ : ∃ w2 : World, w2 = wr := ⟨_, rfl⟩
    have hz2 := HB.out.size
    by_cases hlt : k < n
    · obtain ⟨rfl, hbw⟩ := ha (by omega)
      obtain ⟨x, hx⟩ : ∃ x, l[k]? = some x := ⟨_, List.getElem?_eq_getElem (by rw [HN.out]; exact hlt)⟩
      obtain ⟨c0, c1, c2, c3, c4, c5⟩ := HC.out k _ hx
      rw [← HB.out.cell (p := ⟨b, o + k * 6, none⟩) hbw] at c0
      rw [← HB.out.cell (p := ⟨b, o + k * 6 + 2, none⟩) hbw] at c2
      rw [← HB.out.cell (p := ⟨b, o + k * 6 + 3, none⟩) hbw] at c3
      have hlk : ((l.take k).map selOf).length = k := by rw [List.length_map, List.length_take, HN.out]; omega
      have hsn : (l.take (k + 1)).map selOf = (l.take k).map selOf ++ [(x.nm, x.mn, x.cr)] := by rw [List.take_add_one, hx, List.map_append]; rfl
      obtain ⟨ua, uc, hu⟩ := OwnV.form HO.out
      rw [List.length_map, hlk] at hu
      subst hu
      have HXX : Hid ((bsT x.nm).data.toList = x.nm) := Lib.hid (bytesOf _)
      have HUU : Hid ((bsT x.cr).data.toList = x.cr) := Lib.hid (bytesOf _)
      obtain ⟨cs, hcs⟩ : ∃ cs : List Value, (((l.take k).map selOf).map cellsY).flatten = cs := ⟨_, rfl⟩
      have HO2 : Hid (w2.ownsRow w.heap.size 67 3 (.slice ua k uc) k cs) := Lib.hid (by have := HO.out.2; rw [List.length_map, hlk, hcs] at this; exact this)
      have HAPP : Hid (∀ v' w3, w3.ownsRow w.heap.size 67 3 v' (k + 1) (cs ++ [.string (bsT x.nm), .bool x.mn, .string (bsT x.cr)]) → OwnY 67 w3 w.heap.size v' ((l.take (k + 1)).map selOf)) := Lib.hid (fun v' w3 h => by
        rw [hsn]
        exact OwnY.app (x := (x.nm, x.mn, x.cr)) HXX.out HUU.out (by rw [hlk, hcs]; exact h))
      clear hx hlk hsn HO HXX HUU hcs c1 c4 c5
      obtain ⟨A1, hX⟩ : ∃ X, bsT x.nm = X := ⟨_, rfl⟩
      obtain ⟨C1, hU⟩ : ∃ U, bsT x.cr = U := ⟨_, rfl⟩
      have d0 : w2.cell? ⟨b, o + k * 6, none⟩ = some (.string A1) := by rw [← hX]; exact c0
      have d2 : w2.cell? ⟨b, o + k * 6 + 3, none⟩ = some (.string C1) := by rw [← hU]; exact c3
      rw [hX, hU] at HAPP
      clear c0 c3 hX hU
      generalize x.mn = m at *
      have HV : Hid (Below w2.heap.size w2 (w2.alloc (.cells #[.string A1, .bool m, .string C1] 67)).drew) := Lib.hid ((Below.refl _ _).alloc (Nat.le_refl _) _).drew
      have HOA : Hid (World.ownsRow (w2.alloc (.cells #[.string A1, .bool m, .string C1] 67)).drew w.heap.size 67 3 (.slice ua k uc) k cs) := Lib.hid (World.ownsRow.kept HO2.out (grownV HV.out) (by cases Value.ownBlock _ <;> simp))
      have HNW : Hid (∀ j u, [Value.string A1, Value.bool m, Value.string C1][j]? = some u → (w2.alloc (.cells #[.string A1, .bool m, .string C1] 67)).drew.cell? ((⟨w2.heap.size, 0, none⟩ : Addr).add j) = some u) := Lib.hid (fun j u hj => by
        obtain ⟨x0, x1, x2⟩ := boxV3 w2 (.string A1) (.bool m) (.string C1) 67
        rw [Addr.add_lit]
        match j, hj with
        | 0, hj => simp at hj; subst hj; exact x0
        | 1, hj => simp at hj; subst hj; exact x1
        | 2, hj => simp at hj; subst hj; exact x2)
      have HBF : Hid (Below w.heap.size w (w2.alloc (.cells #[.string A1, .bool m, .string C1] 67)).drew) := Lib.hid (HB.out.alloc hz2 _).drew
      have hkb : k ≤ 90000 := by omega
      have j0 : (0 : Int) ≤ (k : Int) := by omega
      have j1 : (k : Int) < (n : Int) := by omega
      go_wp2
      go_region_law (refine step_append_lies _ rfl _ _ 32 rfl w.heap.size 67 i0 (.agg #[.string ⟨#[]⟩, .bool false, .string ⟨#[]⟩]) 3 40 Tryd.underlying32 hi hz0 hz1 hz2' rfl (by decide) _ _ _ rfl HOA.out ⟨w2.heap.size, 0, none⟩ 1 1 [.string A1, .bool m, .string C1] rfl rfl HNW.out (by simp [Value.oneCell']) (by decide) (by unfold maxLen; omega) (by omega) HBF.out.size _ rfl ?_; intro g cap w6 hown' hgrow h4 h5; have HO6 := Lib.hid (HAPP.out _ _ hown'); have HG6 := Lib.hid hgrow; clear hown' hgrow h4 h5)
      all_goals
        have HB3 : Hid (Below w.heap.size w w6) := Lib.hid (HBF.out.grown HG6.out HBF.out.size (fun k hk => by have := (World.ownsRow.lt HOA.out k hk).1; omega))
        clear HG6 HOA HNW HBF HV
        go_wp2
        go_roundw
        case rel => exact ⟨k + 1, by omega, by go_num, HO6, HB3⟩
        case measure => simp [intOf]; omega
    · obtain rfl : k = n := by omega
      have HO2 := HO.out
      rw [List.take_of_length_le (by rw [HN.out]; omega)] at HO2
      have HO3 := Lib.hid HO2.holds
      clear hlt HO HO2
      go_wp2
      go_ret
      exact ⟨_, rfl, HO3.out, HB.out⟩
end Go.Proofs.YtoipggglmpcjfaaDoor
