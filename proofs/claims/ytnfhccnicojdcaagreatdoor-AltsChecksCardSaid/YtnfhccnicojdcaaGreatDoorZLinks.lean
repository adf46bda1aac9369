/-
  The links and the names of an alternative, by the program and by the reference: what each returns; nothing old turns.
-/
import Derived.Test.YtnfhccnicojdcaaGreatDoorZKeyA
import Derived.Test.YtnfhccnicojdcaaGreatDoorPResolved
import Derived.Laws.OwnMore
namespace Go.Proofs.YtnfhccnicojdcaaGreatDoor
open Go.RowKit
abbrev boxA (x : Av) : Obj := .cells #[.string (⟨x.nm.toArray⟩ : ByteArray), .string (⟨x.lk.toArray⟩ : ByteArray), .bool x.mn, .string (⟨x.cr.toArray⟩ : ByteArray), x.sv, x.cv] 26
theorem belowGT {w w3 w4 : World} {v : Value} {ls : List Bs} {o : Obj} {base : Nat} (h : Below base w w3) (ho : OwnT w3 base v ls) (hg : (w3.alloc o).grownBy w4 v.ownBlock) (hb : base ≤ w3.heap.size) : Below base w w4 :=
  (h.alloc hb o).grown hg (by simp; omega) (fun k hk => (World.ownsRow.lt ho k hk).1)
set_option maxRecDepth 100000 in
set_option maxHeartbeats 8000000 in
theorem links_any (x : Av) (hl : x.sl.length ≤ 90000) (w : World) (h : InA w x) : Calls Tryz.prog 14 #[agZA x] w fun e w' => ∃ v', e = .returned v' ∧ OwnT w' w.heap.size v' (linksA x) ∧ Below w.heap.size w w' := by
  have B1 := (Below.refl w.heap.size w).alloc (Nat.le_refl _) (.cells #[.string (⟨x.nm.toArray⟩ : ByteArray), .string (⟨x.lk.toArray⟩ : ByteArray), .bool x.mn, .string (⟨x.cr.toArray⟩ : ByteArray), x.sv, x.cv] 26)
  obtain ⟨x0, x1, x2, x3, x4, x5⟩ := boxV6 w (.string (⟨x.nm.toArray⟩ : ByteArray)) (.string (⟨x.lk.toArray⟩ : ByteArray)) (.bool x.mn) (.string (⟨x.cr.toArray⟩ : ByteArray)) x.sv x.cv 26
  have hS := h.1
  obtain ⟨cva, cvn, cvc, hcv⟩ := formAc h
  obtain ⟨a, c, b, o, hsv, hc, ha, hcell⟩ := HoldS.parts (l := x.sl) hS
  obtain ⟨i0, hi, hz0, hz1, hz2'⟩ := info_parts infoS
  have HLL : Hid (linksA x = x.lk :: x.sl.map (fun s => s.2)) := Lib.hid rfl
  obtain ⟨l, hll⟩ : ∃ l, x.sl = l := ⟨_, rfl⟩
  rw [hll] at hc ha hcell hl HLL hsv
  unfold agZA
  rw [hsv, hcv] at B1 x0 x1 x2 x3 x4 x5 ⊢
  obtain ⟨LL, hLL⟩ : ∃ LL, linksA x = LL := ⟨_, rfl⟩
  rw [hLL] at HLL ⊢
  obtain ⟨N0, hN0⟩ : ∃ q : ByteArray, (⟨x.nm.toArray⟩ : ByteArray) = q := ⟨_, rfl⟩
  obtain ⟨L0, hL0⟩ : ∃ q : ByteArray, (⟨x.lk.toArray⟩ : ByteArray) = q := ⟨_, rfl⟩
  obtain ⟨R0, hR0⟩ : ∃ q : ByteArray, (⟨x.cr.toArray⟩ : ByteArray) = q := ⟨_, rfl⟩
  have HH0 : Hid (L0.data.toList = x.lk) := Lib.hid (by rw [← hL0])
  rw [hN0, hL0, hR0] at B1 x0 x1 x2 x3 x4 x5 ⊢
  clear hN0 hL0 hR0 hsv hcv hS h hLL hll
  generalize x.mn = mn at *
  generalize x.lk = hd at *
  clear x
  obtain ⟨n, hN⟩ : ∃ n, l.length = n := ⟨_, rfl⟩
  rw [hN] at hc ha hl B1 x0 x1 x2 x3 x4 x5 ⊢
  have HZ1 : (w.alloc (.cells #[.string N0, .string L0, .bool mn, .string R0, .slice a n c, .slice cva cvn cvc] 26)).heap.size = w.heap.size + 1 := World.size_alloc _ _
  have HN := Lib.hid hN
  have HC := Lib.hid hcell
  clear hcell hN
  go_enter Tryz.func14, Tryz.ntmps14
  go_wp2
  generalize w.alloc (.cells #[.string N0, .string L0, .bool mn, .string R0, .slice a n c, .slice cva cvn cvc] 26) = W1 at *
  have HB1 := Lib.hid B1
  have HZ1' := Lib.hid HZ1
  have l0 := World.block_lt_of_cell? _ _ x0
  have HX4 := Lib.hid x4
  have HM := OwnT.made W1 [L0] (by simp [maxLen])
  have HM2 : OwnT (W1.alloc (.cells #[.string L0] 9)) W1.heap.size (.slice (some ⟨w.heap.size + 1, 0, none⟩) 1 1) (hd :: (l.take 0).map (fun s => s.2)) := by
    rw [HH0.out.symm, ← HZ1]; exact HM
  clear HZ1
  have HM3 := Lib.hid HM2
  have HB2 := Lib.hid ((Below.refl W1.heap.size W1).alloc (Nat.le_refl _) (.cells #[.string L0] 9))
  clear HM HM2 x0 x1 x2 x3 x5 B1
  go_loopw [3, 12] (fun u i wr => ∃ k : Nat, k ≤ n ∧ i = .int .i64 k ∧ Hid (OwnT wr W1.heap.size u (hd :: (l.take k).map (fun s => s.2))) ∧ Hid (Below W1.heap.size W1 wr)) (fun _ i _ => n - (intOf i).toNat)
  case atStart => exact ⟨0, by omega, rfl, HM3, HB2⟩
  case round =>
    obtain ⟨k, hk, rfl, HO, HB⟩ := hrel
    have hsz := HB.out.size
    have hx4 := (HB.out.cell (p := ⟨w.heap.size, 4, none⟩) l0).trans HX4.out
    by_cases hlt : k < n
    · obtain ⟨rfl, hbw⟩ := ha (by omega)
      obtain ⟨s, hx⟩ : ∃ s, l[k]? = some s := ⟨_, List.getElem?_eq_getElem (by rw [HN.out]; exact hlt)⟩
      obtain ⟨c0, c1⟩ := HC.out k s hx
      have HBW := HB1.out.trans (HB.out.mono HB1.out.size)
      rw [← HBW.cell (p := ⟨b, o + k * 2, none⟩) hbw] at c0
      rw [← HBW.cell (p := ⟨b, o + k * 2 + 1, none⟩) hbw] at c1
      clear HBW
      have hlk : (hd :: (l.take k).map (fun s => s.2)).length = k + 1 := by rw [List.length_cons, List.length_map, List.length_take, HN.out]; omega
      have hsn : hd :: (l.take (k + 1)).map (fun s => s.2) = (hd :: (l.take k).map (fun s => s.2)) ++ [s.2] := by rw [List.take_add_one, hx, List.map_append]; rfl
      obtain ⟨ua, uc, hu⟩ : ∃ ua uc, u3 = .slice ua (k + 1) uc := by
        obtain ⟨a, c, b, o, e, _⟩ := HO.out.holds
        rw [hlk] at e
        exact ⟨_, _, e⟩
      subst hu
      have HUU : Hid ((⟨(s.2).toArray⟩ : ByteArray).data.toList = s.2) := Lib.hid (bytesOf _)
      have HO2 : Hid (World.ownsRow wr W1.heap.size 9 1 (.slice ua (k + 1) uc) (k + 1) (txts (hd :: (l.take k).map (fun s => s.2)))) := Lib.hid (by have := HO.out; unfold OwnT at this; rw [hlk] at this; exact this)
      have HAPP : Hid (∀ v' w3, w3.ownsRow W1.heap.size 9 1 v' (k + 1 + 1) (txts (hd :: (l.take k).map (fun s => s.2)) ++ [.string (⟨(s.2).toArray⟩ : ByteArray)]) → OwnT w3 W1.heap.size v' (hd :: (l.take (k + 1)).map (fun s => s.2))) := Lib.hid (fun v' w3 h => by
        rw [hsn]
        exact OwnT.app HUU.out (by rw [hlk]; exact h))
      have HBG : Hid (∀ w4 o, (wr.alloc o).grownBy w4 (Value.slice ua (k + 1) uc).ownBlock → Below W1.heap.size W1 w4) := Lib.hid (fun w4 o hg => belowGT HB.out HO.out hg hsz)
      generalize txts (hd :: (l.take k).map (fun s => s.2)) = T0 at *
      have j0 : (0 : Int) ≤ (k : Int) := by omega
      have j1 : (k : Int) < (n : Int) := by omega
      clear hx hlk hsn HO HUU
      generalize (⟨s.1.toArray⟩ : ByteArray) = X at *
      generalize (⟨s.2.toArray⟩ : ByteArray) = Y at *
      have HBS := Lib.hid ((Below.refl wr.heap.size wr).alloc (Nat.le_refl _) (.cells #[.string X, .string Y] 54))
      have HO3 : Hid (World.ownsRow (wr.alloc (.cells #[.string X, .string Y] 54)) W1.heap.size 9 1 (.slice ua (k + 1) uc) (k + 1) T0) := Lib.hid (World.ownsRow.alloc HO2.out _)
      obtain ⟨y0, y1⟩ := boxV2 wr (.string X) (.string Y) 54
      go_wp2_with (at_builtin; refine wpList_append_own _ rfl _ _ 30 rfl W1.heap.size 9 i0 (.string ⟨#[]⟩) 1 16 Tryz.underlying30 hi hz0 hz1 hz2' rfl (by decide) _ _ _ rfl (World.ownsRow.alloc HO3.out _) ⟨wr.heap.size + 1, 0, none⟩ 1 1 [.string Y] rfl rfl ?c1 ?c2 ?c3 ?c4 ?c5 ?_)

      case c2 => rfl
      case c3 => unfold maxLen; omega
      case c4 => omega
      case c5 => first | omega | (simp; omega)
      · intro v' w4 hown' hgrow _
        have HO4 := Lib.hid (HAPP.out _ _ hown')
        have HB4 : Hid (Below W1.heap.size W1 w4) := Lib.hid (((HB.out.trans (HBS.out.mono hsz)).alloc (by simp; omega) _).grown hgrow (by simp; omega) (fun k hk => (World.ownsRow.lt HO3.out k hk).1))
        clear hown' hgrow
        go_wp2
        go_roundw
        case rel => exact ⟨k + 1, by omega, by go_num, HO4, HB4⟩
        case measure => simp [intOf]; omega
    · obtain rfl : k = n := by omega
      have HO2 := HO.out
      rw [List.take_of_length_le (by rw [HN.out]; omega)] at HO2
      have HO3 : Hid (OwnT wr w.heap.size u3 LL) := Lib.hid (by rw [HLL.out]; exact HO2.mono HB1.out.size)
      have HB3 := Lib.hid (HB1.out.trans (HB.out.mono HB1.out.size))
      clear hlt HO HO2
      go_wp2
      go_ret
      exact ⟨_, rfl, HO3.out, HB3.out⟩
set_option maxRecDepth 100000 in
set_option maxHeartbeats 8000000 in
theorem links_ref (x : Av) (hl : x.sl.length ≤ 90000) (w : World) (h : InA w x) : Calls Tryz.prog 15 #[agZA x] w fun e w' => ∃ v', e = .returned v' ∧ OwnT w' w.heap.size v' (linksA x) ∧ Below w.heap.size w w' := by
  have B1 := (Below.refl w.heap.size w).alloc (Nat.le_refl _) (.cells #[.string (⟨x.nm.toArray⟩ : ByteArray), .string (⟨x.lk.toArray⟩ : ByteArray), .bool x.mn, .string (⟨x.cr.toArray⟩ : ByteArray), x.sv, x.cv] 26)
  obtain ⟨x0, x1, x2, x3, x4, x5⟩ := boxV6 w (.string (⟨x.nm.toArray⟩ : ByteArray)) (.string (⟨x.lk.toArray⟩ : ByteArray)) (.bool x.mn) (.string (⟨x.cr.toArray⟩ : ByteArray)) x.sv x.cv 26
  have hS := h.1
  obtain ⟨cva, cvn, cvc, hcv⟩ := formAc h
  obtain ⟨a, c, b, o, hsv, hc, ha, hcell⟩ := HoldS.parts (l := x.sl) hS
  obtain ⟨i0, hi, hz0, hz1, hz2'⟩ := info_parts infoS
  have HLL : Hid (linksA x = x.lk :: x.sl.map (fun s => s.2)) := Lib.hid rfl
  obtain ⟨l, hll⟩ : ∃ l, x.sl = l := ⟨_, rfl⟩
  rw [hll] at hc ha hcell hl HLL hsv
  unfold agZA
  rw [hsv, hcv] at B1 x0 x1 x2 x3 x4 x5 ⊢
  obtain ⟨LL, hLL⟩ : ∃ LL, linksA x = LL := ⟨_, rfl⟩
  rw [hLL] at HLL ⊢
  obtain ⟨N0, hN0⟩ : ∃ q : ByteArray, (⟨x.nm.toArray⟩ : ByteArray) = q := ⟨_, rfl⟩
  obtain ⟨L0, hL0⟩ : ∃ q : ByteArray, (⟨x.lk.toArray⟩ : ByteArray) = q := ⟨_, rfl⟩
  obtain ⟨R0, hR0⟩ : ∃ q : ByteArray, (⟨x.cr.toArray⟩ : ByteArray) = q := ⟨_, rfl⟩
  have HH0 : Hid (L0.data.toList = x.lk) := Lib.hid (by rw [← hL0])
  rw [hN0, hL0, hR0] at B1 x0 x1 x2 x3 x4 x5 ⊢
  clear hN0 hL0 hR0 hsv hcv hS h hLL hll
  generalize x.mn = mn at *
  generalize x.lk = hd at *
  clear x
  obtain ⟨n, hN⟩ : ∃ n, l.length = n := ⟨_, rfl⟩
  rw [hN] at hc ha hl B1 x0 x1 x2 x3 x4 x5 ⊢
  have HZ1 : (w.alloc (.cells #[.string N0, .string L0, .bool mn, .string R0, .slice a n c, .slice cva cvn cvc] 26)).heap.size = w.heap.size + 1 := World.size_alloc _ _
  have HN := Lib.hid hN
  have HC := Lib.hid hcell
  clear hcell hN
  go_enter Tryz.func15, Tryz.ntmps15
  go_wp2
  generalize w.alloc (.cells #[.string N0, .string L0, .bool mn, .string R0, .slice a n c, .slice cva cvn cvc] 26) = W1 at *
  have HB1 := Lib.hid B1
  have HZ1' := Lib.hid HZ1
  have l0 := World.block_lt_of_cell? _ _ x0
  have HX4 := Lib.hid x4
  have HM := OwnT.made W1 [L0] (by simp [maxLen])
  have HM2 : OwnT (W1.alloc (.cells #[.string L0] 9)) W1.heap.size (.slice (some ⟨w.heap.size + 1, 0, none⟩) 1 1) (hd :: (l.take 0).map (fun s => s.2)) := by
    rw [HH0.out.symm, ← HZ1]; exact HM
  clear HZ1
  have HM3 := Lib.hid HM2
  have HB2 := Lib.hid ((Below.refl W1.heap.size W1).alloc (Nat.le_refl _) (.cells #[.string L0] 9))
  clear HM HM2 x0 x1 x2 x3 x5 B1
  go_loopw [3, 4] (fun u i wr => ∃ k : Nat, k ≤ n ∧ i = .int .i64 k ∧ Hid (OwnT wr W1.heap.size u (hd :: (l.take k).map (fun s => s.2))) ∧ Hid (Below W1.heap.size W1 wr)) (fun _ i _ => n - (intOf i).toNat)
  case atStart => exact ⟨0, by omega, rfl, HM3, HB2⟩
  case round =>
    obtain ⟨k, hk, rfl, HO, HB⟩ := hrel
    have hsz := HB.out.size
    have hx4 := (HB.out.cell (p := ⟨w.heap.size, 4, none⟩) l0).trans HX4.out
    by_cases hlt : k < n
    · obtain ⟨rfl, hbw⟩ := ha (by omega)
      obtain ⟨s, hx⟩ : ∃ s, l[k]? = some s := ⟨_, List.getElem?_eq_getElem (by rw [HN.out]; exact hlt)⟩
      obtain ⟨c0, c1⟩ := HC.out k s hx
      have HBW := HB1.out.trans (HB.out.mono HB1.out.size)
      rw [← HBW.cell (p := ⟨b, o + k * 2, none⟩) hbw] at c0
      rw [← HBW.cell (p := ⟨b, o + k * 2 + 1, none⟩) hbw] at c1
      clear HBW
      have hlk : (hd :: (l.take k).map (fun s => s.2)).length = k + 1 := by rw [List.length_cons, List.length_map, List.length_take, HN.out]; omega
      have hsn : hd :: (l.take (k + 1)).map (fun s => s.2) = (hd :: (l.take k).map (fun s => s.2)) ++ [s.2] := by rw [List.take_add_one, hx, List.map_append]; rfl
      obtain ⟨ua, uc, hu⟩ : ∃ ua uc, u3 = .slice ua (k + 1) uc := by
        obtain ⟨a, c, b, o, e, _⟩ := HO.out.holds
        rw [hlk] at e
        exact ⟨_, _, e⟩
      subst hu
      have HUU : Hid ((⟨(s.2).toArray⟩ : ByteArray).data.toList = s.2) := Lib.hid (bytesOf _)
      have HO2 : Hid (World.ownsRow wr W1.heap.size 9 1 (.slice ua (k + 1) uc) (k + 1) (txts (hd :: (l.take k).map (fun s => s.2)))) := Lib.hid (by have := HO.out; unfold OwnT at this; rw [hlk] at this; exact this)
      have HAPP : Hid (∀ v' w3, w3.ownsRow W1.heap.size 9 1 v' (k + 1 + 1) (txts (hd :: (l.take k).map (fun s => s.2)) ++ [.string (⟨(s.2).toArray⟩ : ByteArray)]) → OwnT w3 W1.heap.size v' (hd :: (l.take (k + 1)).map (fun s => s.2))) := Lib.hid (fun v' w3 h => by
        rw [hsn]
        exact OwnT.app HUU.out (by rw [hlk]; exact h))
      have HBG : Hid (∀ w4 o, (wr.alloc o).grownBy w4 (Value.slice ua (k + 1) uc).ownBlock → Below W1.heap.size W1 w4) := Lib.hid (fun w4 o hg => belowGT HB.out HO.out hg hsz)
      generalize txts (hd :: (l.take k).map (fun s => s.2)) = T0 at *
      have j0 : (0 : Int) ≤ (k : Int) := by omega
      have j1 : (k : Int) < (n : Int) := by omega
      clear hx hlk hsn HO HUU
      generalize (⟨s.1.toArray⟩ : ByteArray) = X at *
      generalize (⟨s.2.toArray⟩ : ByteArray) = Y at *
      go_wp2_with (at_builtin; refine wpList_append_own _ rfl _ _ 30 rfl W1.heap.size 9 i0 (.string ⟨#[]⟩) 1 16 Tryz.underlying30 hi hz0 hz1 hz2' rfl (by decide) _ _ _ rfl (World.ownsRow.alloc HO2.out _) ⟨wr.heap.size, 0, none⟩ 1 1 [.string Y] rfl rfl ?c1 ?c2 ?c3 ?c4 ?c5 ?_)

      case c2 => rfl
      case c3 => unfold maxLen; omega
      case c4 => omega
      case c5 => first | omega | (simp; omega)
      · intro v' w4 hown' hgrow _
        have HO4 := Lib.hid (HAPP.out _ _ hown')
        have HB4 : Hid (Below W1.heap.size W1 w4) := Lib.hid (HBG.out _ _ hgrow)
        clear hown' hgrow
        go_wp2
        go_roundw
        case rel => exact ⟨k + 1, by omega, by go_num, HO4, HB4⟩
        case measure => simp [intOf]; omega
    · obtain rfl : k = n := by omega
      have HO2 := HO.out
      rw [List.take_of_length_le (by rw [HN.out]; omega)] at HO2
      have HO3 : Hid (OwnT wr w.heap.size u3 LL) := Lib.hid (by rw [HLL.out]; exact HO2.mono HB1.out.size)
      have HB3 := Lib.hid (HB1.out.trans (HB.out.mono HB1.out.size))
      clear hlt HO HO2
      go_wp2
      go_ret
      exact ⟨_, rfl, HO3.out, HB3.out⟩
set_option maxRecDepth 100000 in
set_option maxHeartbeats 8000000 in
theorem names_ref (x : Av) (hl : x.sl.length ≤ 90000) (w : World) (h : InA w x) : Calls Tryz.prog 44 #[agZA x] w fun e w' => ∃ v', e = .returned v' ∧ OwnT w' w.heap.size v' (namesA x) ∧ Below w.heap.size w w' := by
  have B1 := (Below.refl w.heap.size w).alloc (Nat.le_refl _) (.cells #[.string (⟨x.nm.toArray⟩ : ByteArray), .string (⟨x.lk.toArray⟩ : ByteArray), .bool x.mn, .string (⟨x.cr.toArray⟩ : ByteArray), x.sv, x.cv] 26)
  obtain ⟨x0, x1, x2, x3, x4, x5⟩ := boxV6 w (.string (⟨x.nm.toArray⟩ : ByteArray)) (.string (⟨x.lk.toArray⟩ : ByteArray)) (.bool x.mn) (.string (⟨x.cr.toArray⟩ : ByteArray)) x.sv x.cv 26
  have hS := h.1
  obtain ⟨cva, cvn, cvc, hcv⟩ := formAc h
  obtain ⟨a, c, b, o, hsv, hc, ha, hcell⟩ := HoldS.parts (l := x.sl) hS
  obtain ⟨i0, hi, hz0, hz1, hz2'⟩ := info_parts infoS
  have HLL : Hid (namesA x = x.nm :: x.sl.map (fun s => s.1)) := Lib.hid rfl
  obtain ⟨l, hll⟩ : ∃ l, x.sl = l := ⟨_, rfl⟩
  rw [hll] at hc ha hcell hl HLL hsv
  unfold agZA
  rw [hsv, hcv] at B1 x0 x1 x2 x3 x4 x5 ⊢
  obtain ⟨LL, hLL⟩ : ∃ LL, namesA x = LL := ⟨_, rfl⟩
  rw [hLL] at HLL ⊢
  obtain ⟨N0, hN0⟩ : ∃ q : ByteArray, (⟨x.nm.toArray⟩ : ByteArray) = q := ⟨_, rfl⟩
  obtain ⟨L0, hL0⟩ : ∃ q : ByteArray, (⟨x.lk.toArray⟩ : ByteArray) = q := ⟨_, rfl⟩
  obtain ⟨R0, hR0⟩ : ∃ q : ByteArray, (⟨x.cr.toArray⟩ : ByteArray) = q := ⟨_, rfl⟩
  have HH0 : Hid (N0.data.toList = x.nm) := Lib.hid (by rw [← hN0])
  rw [hN0, hL0, hR0] at B1 x0 x1 x2 x3 x4 x5 ⊢
  clear hN0 hL0 hR0 hsv hcv hS h hLL hll
  generalize x.mn = mn at *
  generalize x.nm = hd at *
  clear x
  obtain ⟨n, hN⟩ : ∃ n, l.length = n := ⟨_, rfl⟩
  rw [hN] at hc ha hl B1 x0 x1 x2 x3 x4 x5 ⊢
  have HZ1 : (w.alloc (.cells #[.string N0, .string L0, .bool mn, .string R0, .slice a n c, .slice cva cvn cvc] 26)).heap.size = w.heap.size + 1 := World.size_alloc _ _
  have HN := Lib.hid hN
  have HC := Lib.hid hcell
  clear hcell hN
  go_enter Tryz.func44, Tryz.ntmps44
  go_wp2
  generalize w.alloc (.cells #[.string N0, .string L0, .bool mn, .string R0, .slice a n c, .slice cva cvn cvc] 26) = W1 at *
  have HB1 := Lib.hid B1
  have HZ1' := Lib.hid HZ1
  have l0 := World.block_lt_of_cell? _ _ x0
  have HX4 := Lib.hid x4
  have HM := OwnT.made W1 [N0] (by simp [maxLen])
  have HM2 : OwnT (W1.alloc (.cells #[.string N0] 9)) W1.heap.size (.slice (some ⟨w.heap.size + 1, 0, none⟩) 1 1) (hd :: (l.take 0).map (fun s => s.1)) := by
    rw [HH0.out.symm, ← HZ1]; exact HM
  clear HZ1
  have HM3 := Lib.hid HM2
  have HB2 := Lib.hid ((Below.refl W1.heap.size W1).alloc (Nat.le_refl _) (.cells #[.string N0] 9))
  clear HM HM2 x0 x1 x2 x3 x5 B1
  go_loopw [3, 4] (fun u i wr => ∃ k : Nat, k ≤ n ∧ i = .int .i64 k ∧ Hid (OwnT wr W1.heap.size u (hd :: (l.take k).map (fun s => s.1))) ∧ Hid (Below W1.heap.size W1 wr)) (fun _ i _ => n - (intOf i).toNat)
  case atStart => exact ⟨0, by omega, rfl, HM3, HB2⟩
  case round =>
    obtain ⟨k, hk, rfl, HO, HB⟩ := hrel
    have hsz := HB.out.size
    have hx4 := (HB.out.cell (p := ⟨w.heap.size, 4, none⟩) l0).trans HX4.out
    by_cases hlt : k < n
    · obtain ⟨rfl, hbw⟩ := ha (by omega)
      obtain ⟨s, hx⟩ : ∃ s, l[k]? = some s := ⟨_, List.getElem?_eq_getElem (by rw [HN.out]; exact hlt)⟩
      obtain ⟨c0, c1⟩ := HC.out k s hx
      have HBW := HB1.out.trans (HB.out.mono HB1.out.size)
      rw [← HBW.cell (p := ⟨b, o + k * 2, none⟩) hbw] at c0
      rw [← HBW.cell (p := ⟨b, o + k * 2 + 1, none⟩) hbw] at c1
      clear HBW
      have hlk : (hd :: (l.take k).map (fun s => s.1)).length = k + 1 := by rw [List.length_cons, List.length_map, List.length_take, HN.out]; omega
      have hsn : hd :: (l.take (k + 1)).map (fun s => s.1) = (hd :: (l.take k).map (fun s => s.1)) ++ [s.1] := by rw [List.take_add_one, hx, List.map_append]; rfl
      obtain ⟨ua, uc, hu⟩ : ∃ ua uc, u3 = .slice ua (k + 1) uc := by
        obtain ⟨a, c, b, o, e, _⟩ := HO.out.holds
        rw [hlk] at e
        exact ⟨_, _, e⟩
      subst hu
      have HUU : Hid ((⟨(s.1).toArray⟩ : ByteArray).data.toList = s.1) := Lib.hid (bytesOf _)
      have HO2 : Hid (World.ownsRow wr W1.heap.size 9 1 (.slice ua (k + 1) uc) (k + 1) (txts (hd :: (l.take k).map (fun s => s.1)))) := Lib.hid (by have := HO.out; unfold OwnT at this; rw [hlk] at this; exact this)
      have HAPP : Hid (∀ v' w3, w3.ownsRow W1.heap.size 9 1 v' (k + 1 + 1) (txts (hd :: (l.take k).map (fun s => s.1)) ++ [.string (⟨(s.1).toArray⟩ : ByteArray)]) → OwnT w3 W1.heap.size v' (hd :: (l.take (k + 1)).map (fun s => s.1))) := Lib.hid (fun v' w3 h => by
        rw [hsn]
        exact OwnT.app HUU.out (by rw [hlk]; exact h))
      have HBG : Hid (∀ w4 o, (wr.alloc o).grownBy w4 (Value.slice ua (k + 1) uc).ownBlock → Below W1.heap.size W1 w4) := Lib.hid (fun w4 o hg => belowGT HB.out HO.out hg hsz)
      generalize txts (hd :: (l.take k).map (fun s => s.1)) = T0 at *
      have j0 : (0 : Int) ≤ (k : Int) := by omega
      have j1 : (k : Int) < (n : Int) := by omega
      clear hx hlk hsn HO HUU
      generalize (⟨s.1.toArray⟩ : ByteArray) = X at *
      generalize (⟨s.2.toArray⟩ : ByteArray) = Y at *
      go_wp2_with (at_builtin; refine wpList_append_own _ rfl _ _ 30 rfl W1.heap.size 9 i0 (.string ⟨#[]⟩) 1 16 Tryz.underlying30 hi hz0 hz1 hz2' rfl (by decide) _ _ _ rfl (World.ownsRow.alloc HO2.out _) ⟨wr.heap.size, 0, none⟩ 1 1 [.string X] rfl rfl ?c1 ?c2 ?c3 ?c4 ?c5 ?_)

      case c2 => rfl
      case c3 => unfold maxLen; omega
      case c4 => omega
      case c5 => first | omega | (simp; omega)
      · intro v' w4 hown' hgrow _
        have HO4 := Lib.hid (HAPP.out _ _ hown')
        have HB4 : Hid (Below W1.heap.size W1 w4) := Lib.hid (HBG.out _ _ hgrow)
        clear hown' hgrow
        go_wp2
        go_roundw
        case rel => exact ⟨k + 1, by omega, by go_num, HO4, HB4⟩
        case measure => simp [intOf]; omega
    · obtain rfl : k = n := by omega
      have HO2 := HO.out
      rw [List.take_of_length_le (by rw [HN.out]; omega)] at HO2
      have HO3 : Hid (OwnT wr w.heap.size u3 LL) := Lib.hid (by rw [HLL.out]; exact HO2.mono HB1.out.size)
      have HB3 := Lib.hid (HB1.out.trans (HB.out.mono HB1.out.size))
      clear hlt HO HO2
      go_wp2
      go_ret
      exact ⟨_, rfl, HO3.out, HB3.out⟩
end Go.Proofs.YtnfhccnicojdcaaGreatDoor
