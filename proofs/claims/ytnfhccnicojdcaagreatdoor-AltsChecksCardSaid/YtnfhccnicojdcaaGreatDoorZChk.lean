/-
  Which alternatives may be together: none of their names, and none of their links, is there twice; nothing of the program. alts.occurrences: what it returns; nothing old turns. An occurrence as a map's key: what it reads as; two that read alike are one. alts.Check: what it returns; nothing old turns. Condition: LaidP.
-/
import Derived.Test.YtnfhccnicojdcaaGreatDoorZMath
import Derived.Test.YtnfhccnicojdcaaGreatDoorZLinks
import Derived.Test.YtnfhccnicojdcaaGreatDoorRowV
import Derived.Test.YtnfhccnicojdcaaGreatDoorZAwake
import Derived.DeepKeys4
import Derived.Maps.OwnSet
import Derived.Test.YtnfhccnicojdcaaGreatDoorZRight2
namespace Go.Proofs.YtnfhccnicojdcaaGreatDoor
open Go.RowKit
/-- A kind, and a text. -/
abbrev Oc := Int × Bs
def occA (x : Av) : List Oc := (namesA x).map (fun s => (0, s)) ++ (linksA x).map (fun s => (1, s))
def occsA (l : List Av) : List Oc := l.flatMap occA
abbrev StepsA (l : List Av) : Prop := StepsK rightA (fun x => x.nm) l
open Classical in
noncomputable def chkA (l : List Av) : Int := if 64 < l.length then 22 else if StepsA l ∧ (occsA l).Nodup then 0 else 1
theorem chkA_long {l : List Av} (h : 64 < l.length) : chkA l = 22 := by unfold chkA; rw [if_pos h]
theorem chkA_ok {l : List Av} (h : ¬ 64 < l.length) (g : StepsA l) (g2 : (occsA l).Nodup) : chkA l = 0 := by unfold chkA; rw [if_neg h, if_pos ⟨g, g2⟩]
theorem chkA_no {l : List Av} (h : ¬ 64 < l.length) (g : ¬ (StepsA l ∧ (occsA l).Nodup)) : chkA l = 1 := by unfold chkA; rw [if_neg h, if_neg g]
theorem chkA_keyed (l : List Av) : (kchkK rightA (fun x => x.nm) l = 0 ∧ l.length ≤ 64 ∧ StepsA l) ∨ (kchkK rightA (fun x => x.nm) l ≠ 0 ∧ chkA l = kchkK rightA (fun x => x.nm) l) := by
  by_cases h : 64 < l.length
  · right; rw [kchkK_long h, chkA_long h]; exact ⟨by decide, rfl⟩
  · by_cases g : StepsA l
    · left; exact ⟨kchkK_ok h g, by omega, g⟩
    · right; rw [kchkK_no h g, chkA_no h (fun q => g q.1)]; exact ⟨by decide, rfl⟩
theorem nodup_map_pair (k : Int) (l : List Bs) : (l.map (fun s => (k, s))).Nodup ↔ l.Nodup := by
  unfold List.Nodup
  rw [List.pairwise_map]
  constructor
  · intro h; exact h.imp (fun {a b} hab e => hab (by rw [e]))
  · intro h; exact h.imp (fun {a b} hab e => hab (Prod.mk.inj e).2)
theorem occs_perm : ∀ l : List Av, (occsA l).Perm ((l.flatMap namesA).map (fun s => ((0 : Int), s)) ++ (l.flatMap linksA).map (fun s => ((1 : Int), s)))
  | [] => by simp [occsA]
  | x :: l => by
    have ih := occs_perm l
    unfold occsA at ih ⊢
    rw [List.flatMap_cons, List.flatMap_cons, List.flatMap_cons, List.map_append, List.map_append]
    refine (List.Perm.append_left (occA x) ih).trans ?_
    unfold occA
    rw [List.append_assoc, List.append_assoc]
    refine List.Perm.append_left _ ?_
    rw [← List.append_assoc, ← List.append_assoc]
    exact List.Perm.append_right _ List.perm_append_comm
theorem occs_nodup (l : List Av) : (occsA l).Nodup ↔ (l.flatMap linksA).Nodup ∧ (l.flatMap namesA).Nodup := by
  rw [(occs_perm l).nodup_iff, List.nodup_append, nodup_map_pair, nodup_map_pair]
  constructor
  · rintro ⟨a, b, -⟩; exact ⟨b, a⟩
  · rintro ⟨a, b⟩
    refine ⟨b, a, fun p hp q hq e => ?_⟩
    obtain ⟨s, -, rfl⟩ := List.mem_map.1 hp
    obtain ⟨t, -, rfl⟩ := List.mem_map.1 hq
    have := (Prod.mk.inj e).1
    omega
end Go.Proofs.YtnfhccnicojdcaaGreatDoor
namespace Go.Proofs.YtnfhccnicojdcaaGreatDoor
open Go.RowKit
abbrev cellsOc (x : Oc) : Rw := [.int .i64 x.1, .string (⟨x.2.toArray⟩ : ByteArray)]
abbrev OwnOc (w : World) (base : Nat) (v : Value) (l : List Oc) : Prop := OwnV 72 2 w base v (l.map cellsOc)
abbrev HoldOc (w : World) (v : Value) (l : List Oc) : Prop := HoldV 2 w v (l.map cellsOc)
theorem cellsOc_len (l : List Oc) : ∀ r ∈ l.map cellsOc, r.length = 2 := fun r hr => by obtain ⟨x, _, rfl⟩ := List.mem_map.1 hr; rfl
theorem OwnOc.app {w' : World} {base : Nat} {v' : Value} {l : List Oc} {k : Int} {s : Bs} {c0 : ByteArray} (h0 : c0.data.toList = s) (h : w'.ownsRow base 72 2 v' (l.length + 1) ((l.map cellsOc).flatten ++ [.int .i64 k, .string c0])) : OwnOc w' base v' (l ++ [(k, s)]) := by
  have := OwnV.app (T := 72) (k := 2) (rows := l.map cellsOc) (r := cellsOc (k, s)) (cellsOc_len l) rfl (by rw [List.length_map]; rw [strOf h0] at h; exact h)
  unfold OwnOc; rw [List.map_append]; exact this
theorem OwnOc.made (w : World) (k : Int) (s : Bs) {c0 : ByteArray} (h0 : c0.data.toList = s) : OwnOc (w.alloc (.cells #[.int .i64 k, .string c0] 72)) w.heap.size (.slice (some ⟨w.heap.size, 0, none⟩) 1 1) [(k, s)] := by
  refine ⟨cellsOc_len _, rfl, .inr ⟨w.heap.size, 1, #[.int .i64 k, .string c0], rfl, Nat.le_refl _, heap_alloc_new w _, Nat.le_refl _, by unfold maxLen; omega, rfl, ?_⟩⟩
  rw [strOf h0]; rfl
theorem infoOc : (Tryz.prog.info? 72).map (fun i => (i.zero, i.size, i.bytes)) = some (some (.agg #[.int .i64 0, .string ⟨#[]⟩]), 2, 24) := by kernel_rfl
theorem kindsAp {w : World} {b1 b2 s1 s2 n1 n2 : Nat} {v1 v2 : Value} {x1 x2 : List Value} {e1 e2 : TypeId} (h1 : w.ownsRow b1 e1 s1 v1 n1 x1) (h2 : w.ownsRow b2 e2 s2 v2 n2 x2) (he : e1 ≠ e2) : v1.ownBlock = none ∨ v1.ownBlock ≠ v2.ownBlock := by
  rcases h1.2 with ⟨rfl, _⟩ | ⟨g, cap, cur, rfl, hb, hg, _⟩
  · exact .inl rfl
  · refine .inr fun e => ?_
    rcases h2.2 with ⟨rfl, _⟩ | ⟨g', cap', cur', rfl, hb', hg', _⟩
    · simp [Value.ownBlock] at e
    · simp only [Value.ownBlock, Option.some.injEq] at e
      subst e
      rw [hg] at hg'
      simp only [Option.some.injEq, Obj.cells.injEq] at hg'
      exact he hg'.2.1
theorem OwnT.onB {w w' : World} {base : Nat} {v : Value} {l : List Bs} (h : OwnT w base v l) (hb : Below w.heap.size w w') : OwnT w' base v l := World.ownsRow.kept h (grownV hb) (by cases v.ownBlock <;> simp)
set_option maxRecDepth 100000 in
set_option maxHeartbeats 16000000 in
theorem occ_any (x : Av) (hl : x.sl.length ≤ 90000) (w : World) (h : InA w x) : Calls Tryz.prog 42 #[agZA x] w fun e w' => ∃ v', e = .returned v' ∧ OwnOc w' w.heap.size v' (occA x) ∧ Below w.heap.size w w' := by
  have B1 := (Below.refl w.heap.size w).alloc (Nat.le_refl _) (.cells #[.string (⟨x.nm.toArray⟩ : ByteArray), .string (⟨x.lk.toArray⟩ : ByteArray), .bool x.mn, .string (⟨x.cr.toArray⟩ : ByteArray), x.sv, x.cv] 26)
  have LK := fun W (hb : Below w.heap.size w W) => links_any x hl W (h.on hb)
  have hY1 := heap_alloc_new w (.cells #[.string (⟨x.nm.toArray⟩ : ByteArray), .string (⟨x.lk.toArray⟩ : ByteArray), .bool x.mn, .string (⟨x.cr.toArray⟩ : ByteArray), x.sv, x.cv] 26)
  have hS := h.1
  obtain ⟨cva, cvn, cvc, hcv⟩ := formAc h
  obtain ⟨a, c, b, o, hsv, hc, ha, hcell⟩ := HoldS.parts (l := x.sl) hS
  obtain ⟨i0, hi, hz0, hz1, hz2'⟩ := info_parts infoOc
  have HOA0 : Hid (∀ L, linksA x = L → occA x = (((0 : Int), x.nm) :: x.sl.map (fun s => ((0 : Int), s.1))) ++ L.map (fun s => ((1 : Int), s))) := Lib.hid (fun L e => by rw [← e]; unfold occA namesA; rw [List.map_cons, List.map_map]; rfl)
  have hll2 : (linksA x).length ≤ 90001 := by rw [linksA_len]; omega
  obtain ⟨LL, hLL⟩ : ∃ LL, linksA x = LL := ⟨_, rfl⟩
  have HOA := Lib.hid (HOA0.out LL hLL)
  clear HOA0
  rw [hLL] at hll2
  obtain ⟨OA, hOA⟩ : ∃ OA, occA x = OA := ⟨_, rfl⟩
  obtain ⟨l, hll⟩ : ∃ l, x.sl = l := ⟨_, rfl⟩
  rw [hOA] at HOA ⊢
  unfold agZA at LK ⊢
  rw [hll] at hc ha hcell hl hsv HOA
  simp only [hsv, hcv, hLL] at LK
  rw [hsv, hcv] at B1 hY1 ⊢
  obtain ⟨N0, hN0⟩ : ∃ q : ByteArray, (⟨x.nm.toArray⟩ : ByteArray) = q := ⟨_, rfl⟩
  obtain ⟨L0, hL0⟩ : ∃ q : ByteArray, (⟨x.lk.toArray⟩ : ByteArray) = q := ⟨_, rfl⟩
  obtain ⟨R0, hR0⟩ : ∃ q : ByteArray, (⟨x.cr.toArray⟩ : ByteArray) = q := ⟨_, rfl⟩
  have HH0 : Hid (N0.data.toList = x.nm) := Lib.hid (by rw [← hN0])
  simp only [hN0, hL0, hR0] at LK
  rw [hN0, hL0, hR0] at B1 hY1 ⊢
  clear hN0 hL0 hR0 hsv hcv hS h hLL hOA hll
  generalize x.mn = mn at *
  generalize x.nm = hd at *
  clear x
  obtain ⟨n, hN⟩ : ∃ n, l.length = n := ⟨_, rfl⟩
  rw [hN] at hc ha hl B1 hY1 ⊢
  simp only [hN] at LK
  have HN := Lib.hid hN
  have HC := Lib.hid hcell
  clear hcell hN
  have HZ1 : (w.alloc (.cells #[.string N0, .string L0, .bool mn, .string R0, .slice a n c, .slice cva cvn cvc] 26)).heap.size = w.heap.size + 1 := World.size_alloc _ _
  have x0 := cell_heap (i := 0) hY1 rfl
  go_enter Tryz.func42, Tryz.ntmps42
  go_wp2
  generalize w.alloc (.cells #[.string N0, .string L0, .bool mn, .string R0, .slice a n c, .slice cva cvn cvc] 26) = W1 at *
  have HB1 := Lib.hid B1
  have HY1 := Lib.hid hY1
  have HM := OwnOc.made W1 0 hd HH0.out
  have HM2 : Hid (OwnOc (W1.alloc (.cells #[.int .i64 0, .string N0] 72)) W1.heap.size (.slice (some ⟨w.heap.size + 1, 0, none⟩) 1 1) ((0, hd) :: (l.take 0).map (fun s => ((0 : Int), s.1)))) := Lib.hid (by rw [← HZ1]; exact HM)
  have HB2 := Lib.hid ((Below.refl W1.heap.size W1).alloc (Nat.le_refl _) (.cells #[.int .i64 0, .string N0] 72))
  have hz1w : w.heap.size < W1.heap.size := by omega
  clear HM x0 B1 hY1 HZ1
  go_loopw [3, 15] (fun u i wr => ∃ k : Nat, k ≤ n ∧ i = .int .i64 k ∧ Hid (OwnOc wr W1.heap.size u ((0, hd) :: (l.take k).map (fun s => ((0 : Int), s.1)))) ∧ Hid (Below W1.heap.size W1 wr)) (fun _ i _ => n - (intOf i).toNat)
  case atStart => exact ⟨0, by omega, rfl, HM2, HB2⟩
  case round =>
    obtain ⟨k, hk, rfl, HO, HB⟩ := hrel
    have hsz := HB.out.size
    have HYk := Lib.hid ((HB.out.block w.heap.size hz1w).trans HY1.out)
    by_cases hlt : k < n
    · have hx4 := cell_heap (i := 4) HYk.out rfl
      obtain ⟨rfl, hbw⟩ := ha (by omega)
      obtain ⟨s, hx⟩ : ∃ s, l[k]? = some s := ⟨_, List.getElem?_eq_getElem (by rw [HN.out]; exact hlt)⟩
      obtain ⟨c0, c1⟩ := HC.out k s hx
      have HBW := HB1.out.trans (HB.out.mono HB1.out.size)
      rw [← HBW.cell (p := ⟨b, o + k * 2, none⟩) hbw] at c0
      rw [← HBW.cell (p := ⟨b, o + k * 2 + 1, none⟩) hbw] at c1
      clear HBW
      have hlk : ((0, hd) :: (l.take k).map (fun s => ((0 : Int), s.1))).length = k + 1 := by rw [List.length_cons, List.length_map, List.length_take, HN.out]; omega
      have hsn : (0, hd) :: (l.take (k + 1)).map (fun s => ((0 : Int), s.1)) = ((0, hd) :: (l.take k).map (fun s => ((0 : Int), s.1))) ++ [((0 : Int), s.1)] := by rw [List.take_add_one, hx, List.map_append]; rfl
      obtain ⟨ua, uc, hu⟩ : ∃ ua uc, u3 = .slice ua (k + 1) uc := by
        obtain ⟨a, c, e⟩ := OwnV.form HO.out
        rw [List.length_map, hlk] at e
        exact ⟨_, _, e⟩
      subst hu
      have HUU : Hid ((⟨(s.1).toArray⟩ : ByteArray).data.toList = s.1) := Lib.hid (bytesOf _)
      generalize (0, hd) :: (l.take k).map (fun s => ((0 : Int), s.1)) = G at *
      have HO2 : Hid (World.ownsRow wr W1.heap.size 72 2 (.slice ua (k + 1) uc) (k + 1) (G.map cellsOc).flatten) := Lib.hid (by have := HO.out.2; rw [List.length_map, hlk] at this; exact this)
      have HAPP : Hid (∀ v' w3, w3.ownsRow W1.heap.size 72 2 v' (k + 1 + 1) ((G.map cellsOc).flatten ++ [.int .i64 0, .string (⟨(s.1).toArray⟩ : ByteArray)]) → OwnOc w3 W1.heap.size v' ((0, hd) :: (l.take (k + 1)).map (fun s => ((0 : Int), s.1)))) := Lib.hid (fun v' w3 h => by
        rw [hsn]
        exact OwnOc.app HUU.out (by rw [hlk]; exact h))
      generalize (G.map cellsOc).flatten = T0 at *
      have j0 : (0 : Int) ≤ (k : Int) := by omega
      have j1 : (k : Int) < (n : Int) := by omega
      clear hx hlk hsn HO HUU
      generalize (⟨s.1.toArray⟩ : ByteArray) = X at *
      generalize (⟨s.2.toArray⟩ : ByteArray) = Y at *
      have HBS := Lib.hid ((Below.refl wr.heap.size wr).alloc (Nat.le_refl _) (.cells #[.string X, .string Y] 54))
      have HO3 : Hid (World.ownsRow (wr.alloc (.cells #[.string X, .string Y] 54)) W1.heap.size 72 2 (.slice ua (k + 1) uc) (k + 1) T0) := Lib.hid (World.ownsRow.alloc HO2.out _)
      obtain ⟨y0, y1⟩ := boxV2 wr (.string X) (.string Y) 54
      go_wp2_with (at_builtin; refine wpList_append_own _ rfl _ _ 69 rfl W1.heap.size 72 i0 _ 2 24 Tryz.underlying69 hi hz0 hz1 hz2' rfl (by decide) _ _ _ rfl (World.ownsRow.alloc HO3.out _) ⟨wr.heap.size + 1, 0, none⟩ 1 1 [.int .i64 0, .string X] rfl rfl (by intro j u hj; match j, hj with | 0, hj => simp at hj; subst hj; simp [Addr.add] | 1, hj => simp at hj; subst hj; simp [Addr.add]) (by intro u hu; simp at hu; rcases hu with rfl | rfl <;> rfl) (by unfold maxLen; omega) (by omega) (by simp; omega) ?_)
      intro v' w4 hown' hgrow _
      have HO4 := Lib.hid (HAPP.out _ _ hown')
      have HB4 : Hid (Below W1.heap.size W1 w4) := Lib.hid (((HB.out.trans (HBS.out.mono hsz)).alloc (by simp; omega) _).grown hgrow (by simp; omega) (fun k hk => (World.ownsRow.lt HO3.out k hk).1))
      clear hown' hgrow
      go_wp2
      go_roundw
      case rel => exact ⟨k + 1, by omega, by go_num, HO4, HB4⟩
      case measure => simp [intOf]; omega
    · obtain rfl : k = n := by omega
      have HO2 := HO.out
      rw [List.take_of_length_le (by rw [HN.out]; omega)] at HO2
      have hlg : ((0, hd) :: l.map (fun s => ((0 : Int), s.1))).length = k + 1 := by rw [List.length_cons, List.length_map, HN.out]
      generalize (0, hd) :: l.map (fun s => ((0 : Int), s.1)) = G at *
      have HO3 := Lib.hid HO2
      have HB3 := Lib.hid (HB1.out.trans (HB.out.mono HB1.out.size))
      have x0 := cell_heap (i := 0) HYk.out rfl
      have x1 := cell_heap (i := 1) HYk.out rfl
      have x2 := cell_heap (i := 2) HYk.out rfl
      have x3 := cell_heap (i := 3) HYk.out rfl
      have x4 := cell_heap (i := 4) HYk.out rfl
      have x5 := cell_heap (i := 5) HYk.out rfl
      clear hlt HO HO2 HC ha
      go_wp2_with (go_at_call 14; (with_reducible refine (LK _ HB3.out).mono ?_); rintro e w5 ⟨lv, rfl, hlv, hb⟩; have HL5 := Lib.hid (OwnT.mono hlv hsz); have HB5 := Lib.hid (HB.out.trans (hb.mono hsz)); have HO5 := Lib.hid (OwnV.on HO3.out hb); clear hlv hb; refine Hid.out ?_)
      clear LK HO3 HB3 HB x0 x1 x2 x3 x4 x5 HYk
      obtain ⟨la, lc, hlf⟩ : ∃ a c, lv = .slice a LL.length c := by obtain ⟨a, c, b, o, e, _⟩ := OwnT.holds HL5.out; exact ⟨a, c, e⟩
      subst hlf
      obtain ⟨m, hM⟩ : ∃ m, LL.length = m := ⟨_, rfl⟩
      rw [hM] at HL5 hll2 ⊢
      have HM := Lib.hid hM
      clear hM
      have HL5 : Hid (OwnT w5 W1.heap.size (.slice la m lc) LL) := HL5
      have HO5 : Hid (OwnOc w5 W1.heap.size u3 (G ++ (LL.take 0).map (fun s => ((1 : Int), s)))) := Lib.hid (by rw [List.take_zero, List.map_nil, List.append_nil]; exact HO5.out)
      refine Lib.hid ?_
      go_wp2
      go_loopw [3, 29, 7] (fun u i q wr => ∃ j : Nat, j ≤ m ∧ i = .int .i64 j ∧ Hid (OwnOc wr W1.heap.size u (G ++ (LL.take j).map (fun s => ((1 : Int), s)))) ∧ Hid (OwnT wr W1.heap.size (.slice la m lc) LL) ∧ Hid (Below W1.heap.size W1 wr)) (fun _ i _ _ => m - (intOf i).toNat)
      case atStart => exact ⟨0, by omega, rfl, HO5, HL5, HB5⟩
      case round =>
        obtain ⟨j, hj, rfl, HO, HL, HB⟩ := hrel
        have hsz := HB.out.size
        by_cases hlt : j < m
        · obtain ⟨s, hx⟩ : ∃ s, LL[j]? = some s := ⟨_, List.getElem?_eq_getElem (by rw [HM.out]; exact hlt)⟩
          obtain ⟨a', c', b', o', e', hc', ha', hcell'⟩ := OwnT.holds HL.out
          rw [HM.out] at e' hc' ha'
          simp only [Value.slice.injEq] at e'
          obtain ⟨rfl, -, rfl⟩ := e'
          obtain ⟨rfl, hbw'⟩ := ha' (by omega)
          have d0 := hcell' j s hx
          have hlk : (G ++ (LL.take j).map (fun s => ((1 : Int), s))).length = k + 1 + j := by rw [List.length_append, List.length_map, List.length_take, HM.out, hlg]; omega
          have hsn : G ++ (LL.take (j + 1)).map (fun s => ((1 : Int), s)) = (G ++ (LL.take j).map (fun s => ((1 : Int), s))) ++ [((1 : Int), s)] := by rw [List.take_add_one, hx, List.map_append, List.append_assoc]; rfl
          obtain ⟨ua, uc, hu⟩ : ∃ ua uc, u3 = .slice ua (k + 1 + j) uc := by
            obtain ⟨a, c, e⟩ := OwnV.form HO.out
            rw [List.length_map, hlk] at e
            exact ⟨_, _, e⟩
          subst hu
          have HUU : Hid ((⟨s.toArray⟩ : ByteArray).data.toList = s) := Lib.hid (bytesOf _)
          generalize G ++ (LL.take j).map (fun s => ((1 : Int), s)) = G2 at *
          have HO2 : Hid (World.ownsRow wr W1.heap.size 72 2 (.slice ua (k + 1 + j) uc) (k + 1 + j) (G2.map cellsOc).flatten) := Lib.hid (by have := HO.out.2; rw [List.length_map, hlk] at this; exact this)
          have HAPP : Hid (∀ v' w3, w3.ownsRow W1.heap.size 72 2 v' (k + 1 + j + 1) ((G2.map cellsOc).flatten ++ [.int .i64 1, .string (⟨s.toArray⟩ : ByteArray)]) → OwnOc w3 W1.heap.size v' (G ++ (LL.take (j + 1)).map (fun s => ((1 : Int), s)))) := Lib.hid (fun v' w3 h => by
            rw [hsn]
            exact OwnOc.app HUU.out (by rw [hlk]; exact h))
          have HKEEP : Hid (∀ w4 o, (wr.alloc o).grownBy w4 (Value.slice ua (k + 1 + j) uc).ownBlock → OwnT w4 W1.heap.size (.slice (some ⟨b', o', none⟩) m lc) LL) := Lib.hid (fun w4 o hg => World.ownsRow.kept (World.ownsRow.alloc HL.out o) hg (kindsAp HL.out HO2.out (by decide)))
          generalize (G2.map cellsOc).flatten = T0 at *
          have j0 : (0 : Int) ≤ (j : Int) := by omega
          have j1 : (j : Int) < (m : Int) := by omega
          clear hx hlk hsn HO HUU HL hcell'
          generalize (⟨s.toArray⟩ : ByteArray) = X at *
          go_wp2_with (at_builtin; refine wpList_append_own _ rfl _ _ 69 rfl W1.heap.size 72 i0 _ 2 24 Tryz.underlying69 hi hz0 hz1 hz2' rfl (by decide) _ _ _ rfl (World.ownsRow.alloc HO2.out _) ⟨wr.heap.size, 0, none⟩ 1 1 [.int .i64 1, .string X] rfl rfl (by intro j u hj; match j, hj with | 0, hj => simp at hj; subst hj; simp [Addr.add] | 1, hj => simp at hj; subst hj; simp [Addr.add]) (by intro u hu; simp at hu; rcases hu with rfl | rfl <;> rfl) (by unfold maxLen; omega) (by omega) (by simp; omega) ?_)
          intro v' w4 hown' hgrow _
          have HO4 := Lib.hid (HAPP.out _ _ hown')
          have HL4 := Lib.hid (HKEEP.out _ _ hgrow)
          have HB4 : Hid (Below W1.heap.size W1 w4) := Lib.hid ((HB.out.alloc hsz _).grown hgrow (by simp; omega) (fun k hk => (World.ownsRow.lt HO2.out k hk).1))
          clear hown' hgrow HKEEP HAPP
          go_wp2
          go_roundw
          case rel => exact ⟨j + 1, by omega, by go_num, HO4, HL4, HB4⟩
          case measure => simp [intOf]; omega
        · obtain rfl : j = m := by omega
          have HO2 := HO.out
          rw [List.take_of_length_le (by rw [HM.out]; omega)] at HO2
          have HO3 : Hid (OwnOc wr w.heap.size u3 OA) := Lib.hid (by rw [HOA.out]; exact OwnV.mono HO2 HB1.out.size)
          have HB3 := Lib.hid (HB1.out.trans (HB.out.mono HB1.out.size))
          clear hlt HO HO2 HL
          go_wp2
          go_ret
          exact ⟨_, rfl, HO3.out, HB3.out⟩
end Go.Proofs.YtnfhccnicojdcaaGreatDoor
namespace Go.Proofs.YtnfhccnicojdcaaGreatDoor
open Go.RowKit Go.WideMaps Go.Maps
set_option maxRecDepth 100000 in
theorem laidOutZ : laidOutB Tryz.prog = true := by kernel_rfl
set_option maxRecDepth 100000 in
theorem rowOc : (72 : TypeId) < Tryz.prog.types.size := of_decide_eq_true (by kernel_rfl)
set_option maxRecDepth 100000 in
theorem wideOc : (match Tryz.prog.underlying 72 with | some (.array _ _) | some (.struct _) => true | _ => false) = true := by kernel_rfl
set_option maxRecDepth 100000 in
theorem lawOc : Keyed Tryz.prog 72 := Keyed.of_law (deep_law_laid laidOutZ (m := 2) (by omega) rowOc (by kernel_rfl) wideOc)
abbrev valOc (x : Oc) : Value := .agg #[.int .i64 x.1, .string (⟨x.2.toArray⟩ : ByteArray)]
set_option maxRecDepth 100000 in
theorem fieldsOc : ∃ f0 f1 : Field, Tryz.prog.underlying 72 = some (.struct #[f0, f1]) ∧ f0.offset = 0 ∧ f1.offset = 1 ∧ f0.type = 3 ∧ f1.type = 9 ∧ f0.name ≠ "_" ∧ f1.name ≠ "_" := ⟨_, _, Tryz.underlying72, rfl, rfl, rfl, rfl, by decide, by decide⟩
set_option maxRecDepth 100000 in
theorem cellsOfOc : Tryz.prog.cellsOf 72 = 2 ∧ Tryz.prog.cellsOf 3 = 1 ∧ Tryz.prog.cellsOf 9 = 1 := ⟨by kernel_rfl, by kernel_rfl, by kernel_rfl⟩
set_option maxRecDepth 100000 in
theorem lits_int (m : Nat) (n : Int) (h : (Lit.int .i64 n).wf = true) : Tryz.prog.keyLits (m + 1) 3 [.int .i64 n] = some [.int .i64 n] := by
  unfold Program.keyLits; simp [Tryz.underlying3, h]
set_option maxRecDepth 100000 in
theorem lits_str (m : Nat) (s : ByteArray) (h : s.size ≤ maxLen) : Tryz.prog.keyLits (m + 1) 9 [.string s] = some [.string s.data.toList] := by
  unfold Program.keyLits; simp [Tryz.underlying9, h]
set_option maxRecDepth 100000 in
theorem lits_occ (m : Nat) (n : Int) (s : ByteArray) (hn : (Lit.int .i64 n).wf = true) (hs : s.size ≤ maxLen) : Tryz.prog.keyLits (m + 2) 72 [.int .i64 n, .string s] = some [.int .i64 n, .string s.data.toList] := by
  obtain ⟨f0, f1, hu, o0, o1, t0, t1, n0, n1⟩ := fieldsOc
  obtain ⟨c, c0, c1⟩ := cellsOfOc
  unfold Program.keyLits
  simp [hu, c, o0, o1, t0, t1, n0, n1, c0, c1, lits_int m n hn, lits_str m s hs]
set_option maxRecDepth 100000 in
theorem key_occ (n : Int) (s : ByteArray) (hn : (Lit.int .i64 n).wf = true) (hs : s.size ≤ maxLen) : ∃ kl, keyOf Tryz.prog 72 (.agg #[.int .i64 n, .string s]) = some kl := by
  obtain ⟨f0, f1, hu, -⟩ := fieldsOc
  obtain ⟨c, -, -⟩ := cellsOfOc
  obtain ⟨m, hm⟩ : ∃ m, Tryz.prog.types.size = m + 1 := ⟨Tryz.prog.types.size - 1, (Nat.sub_add_cancel (Nat.lt_of_le_of_lt (Nat.zero_le _) rowOc)).symm⟩
  have hkt : Tryz.prog.keyType 72 = true := by kernel_rfl
  have hl := lits_occ m n s hn hs
  unfold keyOf
  rw [hu]
  simp only [hkt, Value.formed, hu, c]
  rw [hm]
  simp [Value.cells, hl]
noncomputable def litOc (x : Oc) : Lit := (keyOf Tryz.prog 72 (valOc x)).getD (.bool false)
def GoodOc (x : Oc) : Prop := (x.1 = 0 ∨ x.1 = 1) ∧ x.2.length ≤ maxLen
set_option maxRecDepth 100000 in
theorem lit_is {x : Oc} (h : GoodOc x) : keyOf Tryz.prog 72 (valOc x) = some (litOc x) := by
  obtain ⟨kl, hk⟩ := key_occ x.1 (⟨x.2.toArray⟩ : ByteArray) (by rcases h.1 with e | e <;> rw [e] <;> decide) (by rw [sizeOf, bytesOf]; exact h.2)
  unfold litOc
  rw [show valOc x = .agg #[.int .i64 x.1, .string (⟨x.2.toArray⟩ : ByteArray)] from rfl, hk]; rfl
set_option maxRecDepth 100000 in
theorem lit_inj {x y : Oc} (hx : GoodOc x) (hy : GoodOc y) (h : litOc x = litOc y) : x = y := by
  have e := lawOc.inj (lit_is hx) (by rw [h]; exact lit_is hy)
  simp only [valOc, Value.agg.injEq, Array.mk.injEq, List.cons.injEq, Value.int.injEq, Value.string.injEq, ByteArray.mk.injEq, and_true, true_and] at e
  obtain ⟨h1, h2⟩ := e
  exact Prod.ext h1 h2
set_option maxRecDepth 100000 in
theorem lit_key {x : Oc} (h : GoodOc x) : WideAt.IsKeyLit (litOc x) := lawOc.key (lit_is h)
noncomputable def setOc (l : List Oc) : DataW Unit := setOf (.agg []) (l.map litOc)
set_option maxRecDepth 100000 in
theorem setOc_snoc (l : List Oc) (x : Oc) : setOc (l ++ [x]) = (setOc l).put (litOc x) (.agg []) := by unfold setOc; rw [List.map_append]; exact setOf_snoc _ _ _
set_option maxRecDepth 100000 in
theorem setOc_has (l : List Oc) (hl : ∀ y ∈ l, GoodOc y) {x : Oc} (hx : GoodOc x) : Maps.has (setOc l) (litOc x) = decide (x ∈ l) := by
  unfold setOc
  rw [has_setOf _ _ _ (fun k hk => by obtain ⟨y, hy, rfl⟩ := List.mem_map.1 hk; exact lit_key (hl y hy)), List.any_map, Bool.eq_iff_iff, List.any_eq_true, decide_eq_true_eq]
  constructor
  · rintro ⟨y, hy, h⟩
    by_cases e : y = x
    · rw [← e]; exact hy
    · have hne : litOc y ≠ litOc x := fun g => e (lit_inj (hl y hy) hx g)
      simp only [Function.comp] at h
      rw [sameKey_ne hne] at h; cases h
  · intro h
    exact ⟨x, h, WideAt.sameKey_self (lit_key hx)⟩
set_option maxRecDepth 100000 in
theorem zeroUnit (w : World) : (zeroValue 73).run Tryz.prog w = .ok (.agg #[]) w := by kernel_rfl
end Go.Proofs.YtnfhccnicojdcaaGreatDoor
namespace Go.Proofs.YtnfhccnicojdcaaGreatDoor
open Go.RowKit Go.Maps
theorem good_occ {x : Av} (h : SmA x) : ∀ y ∈ occA x, GoodOc y := fun y hy => by
  unfold occA at hy
  have hb : ∀ {s : Bs}, s.length ≤ 4000 → s.length ≤ maxLen := fun hs => by unfold maxLen; omega
  rcases List.mem_append.1 hy with hy | hy
  · obtain ⟨s, hs, rfl⟩ := List.mem_map.1 hy
    refine ⟨.inl rfl, hb ?_⟩
    unfold namesA at hs
    rcases List.mem_cons.1 hs with rfl | hs
    · exact h.nm
    · obtain ⟨q, hq, rfl⟩ := List.mem_map.1 hs
      exact (h.ss q hq).1
  · obtain ⟨s, hs, rfl⟩ := List.mem_map.1 hy
    refine ⟨.inr rfl, hb ?_⟩
    unfold linksA at hs
    rcases List.mem_cons.1 hs with rfl | hs
    · exact h.lk
    · obtain ⟨q, hq, rfl⟩ := List.mem_map.1 hs
      exact (h.ss q hq).2
theorem occs_take {l : List Av} {k : Nat} {x : Av} (hx : l[k]? = some x) : occsA (l.take (k + 1)) = occsA (l.take k) ++ occA x := by
  unfold occsA
  rw [List.take_add_one, hx, List.flatMap_append]; simp
theorem occs_sub {l : List Av} {k : Nat} {x : Av} (hx : l[k]? = some x) (h : (occsA l).Nodup) (j : Nat) (y : Oc) (hy : (occA x)[j]? = some y) : y ∉ occsA (l.take k) ++ (occA x).take j := by
  have e : l = l.take k ++ x :: l.drop (k + 1) := by
    obtain ⟨hk, rfl⟩ := List.getElem?_eq_some_iff.1 hx
    rw [← List.drop_eq_getElem_cons hk, List.take_append_drop]
  have e2 : occsA l = (occsA (l.take k) ++ (occA x).take j) ++ (y :: (occA x).drop (j + 1) ++ occsA (l.drop (k + 1))) := by
    conv => lhs; rw [e]
    unfold occsA
    rw [List.flatMap_append, List.flatMap_cons]
    obtain ⟨hj, ey⟩ := List.getElem?_eq_some_iff.1 hy
    conv => lhs; rw [show occA x = (occA x).take j ++ y :: (occA x).drop (j + 1) by rw [← ey, ← List.drop_eq_getElem_cons hj, List.take_append_drop]]
    simp
  rw [e2] at h
  have := (List.nodup_append.1 h).2.2
  intro hm
  exact this y hm y (by simp) rfl
theorem occ_len (x : Av) : (occA x).length = 2 * (x.sl.length + 1) := by
  unfold occA; rw [List.length_append, List.length_map, List.length_map, namesA_len, linksA_len]; omega
theorem occs_len (l : List Av) (h : ∀ x ∈ l, x.sl.length ≤ 90000) : (occsA l).length ≤ l.length * 180002 := by
  induction l with
  | nil => simp [occsA]
  | cons x l ih =>
    have := ih (fun y hy => h y (List.mem_cons_of_mem _ hy))
    unfold occsA at this ⊢
    rw [List.flatMap_cons, List.length_append, List.length_cons, occ_len]
    have := h x List.mem_cons_self
    omega
theorem HoldOc.at {w : World} {base : Nat} {v : Value} {l : List Oc} (h : OwnOc w base v l) : ∃ (a : Option Addr) (c b o : Nat), v = .slice a l.length c ∧ (0 < l.length → a = some ⟨b, o, none⟩ ∧ b < w.heap.size) ∧
    ∀ (j : Nat) x, l[j]? = some x → w.cell? ⟨b, o + j * 2, none⟩ = some (.int .i64 x.1) ∧ w.cell? ⟨b, o + j * 2 + 1, none⟩ = some (.string (⟨x.2.toArray⟩ : ByteArray)) := by
  obtain ⟨a, c, b, o, e, hc, ha, hcell⟩ := OwnV.holds h
  rw [List.length_map] at e ha
  refine ⟨a, c, b, o, e, ha, fun j x hx => ?_⟩
  have := hcell j (cellsOc x) (by rw [List.getElem?_map, hx]; rfl)
  exact ⟨this 0 _ (by omega) rfl, this 1 _ (by omega) rfl⟩
theorem OwnV.grownM {T : TypeId} {k : Nat} {w w' : World} {base : Nat} {v : Value} {rows : List Rw} {B : Nat} (h : OwnV T k w base v rows) (hg : w.grownBy w' (some B)) (hB : B < base) : OwnV T k w' base v rows :=
  ⟨h.1, World.ownsRow.kept h.2 hg (by
    cases hq : v.ownBlock with
    | none => exact .inl rfl
    | some q => exact .inr (fun e => by cases e; have := (World.ownsRow.lt h.2 B hq).1; omega))⟩
set_option maxRecDepth 100000 in
set_option maxHeartbeats 32000000 in
theorem checkA_any (v : Value) (l : List Av) (hl : l.length ≤ 90000) (hsm : ∀ x ∈ l, SmA x) (w : World) (hL : LaidP w) (h : HoldA w v l) : Calls Tryz.prog 16 #[v] w fun e w' => e = .returned (.int .i64 (chkA l)) ∧ Below w.heap.size w w' := by
  have KC := kcheckA_any 35 #[] (enters_of Tryz.func35 (by kernel_rfl) rfl) rightA v l hl w h (fun x hx W hb => rightA_any x (hsm x hx) W (hL.on hb) ((h.2 x hx).on hb))
  have HOC := Lib.hid (fun x (hx : x ∈ l) W (hb : Below w.heap.size w W) => occ_any x (hsm x hx).sl W ((h.2 x hx).on hb))
  have HGO := Lib.hid (fun x (hx : x ∈ l) => good_occ (hsm x hx))
  have HGS : Hid (∀ k, ∀ y ∈ occsA (l.take k), GoodOc y) := Lib.hid (fun k y hy => by
    unfold occsA at hy
    obtain ⟨x, hx, hy⟩ := List.mem_flatMap.1 hy
    exact good_occ (hsm x (List.mem_of_mem_take hx)) y hy)
  have HOL : Hid (∀ k, (occsA (l.take k)).length ≤ 90000 * 180002) := Lib.hid (fun k => by
    have := occs_len (l.take k) (fun x hx => (hsm x (List.mem_of_mem_take hx)).sl)
    have h2 : (l.take k).length ≤ 90000 := by rw [List.length_take]; omega
    exact Nat.le_trans this (Nat.mul_le_mul_right 180002 h2))
  have HSL := Lib.hid (fun x (hx : x ∈ l) => (hsm x hx).sl)
  have HIN := Lib.hid h.2
  have hway := chkA_keyed l
  obtain ⟨Z, HZ⟩ : ∃ Z, Hid (chkA l = Z) := ⟨_, rfl⟩
  rw [HZ.out] at hway ⊢
  have HYES : Hid (l.length ≤ 64 → StepsA l → (occsA l).Nodup → (0 : Int) = Z) := Lib.hid (fun a b c => by rw [← HZ.out, chkA_ok (by omega) b c])
  have HNO : Hid (l.length ≤ 64 → ¬ (occsA l).Nodup → (1 : Int) = Z) := Lib.hid (fun a b => by rw [← HZ.out, chkA_no (by omega) (fun q => b q.2)])
  clear HZ
  obtain ⟨a, c, b, o, rfl, hc, ha, hcell⟩ := h.parts
  have HC := Lib.hid hcell
  obtain ⟨kz, hkz⟩ : ∃ q, kchkK rightA (fun x => x.nm) l = q := ⟨_, rfl⟩
  rw [hkz] at KC hway
  obtain ⟨n, hN⟩ : ∃ n, l.length = n := ⟨_, rfl⟩
  rw [hN] at hc ha hl KC hway HYES HNO ⊢
  have HN := Lib.hid hN
  have hmm := @run_makeMap Tryz.prog
  unfold keyFA at KC
  clear hcell hN h hkz hsm hL
  rcases hway with ⟨rfl, h64, hst⟩ | ⟨hne, hzz⟩
  rotate_left
  · have HZZ := Lib.hid hzz
    have hk1 : (kz == 0) = false := by simpa using hne
    clear hzz hmm
    go_enter Tryz.func16, Tryz.ntmps16
    go_wp2_with (go_at_call 40; (with_reducible refine KC.mono ?_); rintro e w1 ⟨rfl, hb⟩; have HB1 := Lib.hid hb; clear hb)
    go_ret
    exact ⟨reti HZZ.out.symm, HB1.out⟩
  have HYS := Lib.hid (HYES.out h64 hst)
  have HNN := Lib.hid (HNO.out h64)
  clear hst HNO HYES
  go_enter Tryz.func16, Tryz.ntmps16
  go_wp2_with (go_at_call 40; (with_reducible refine KC.mono ?_); rintro e w1 ⟨rfl, hb⟩; have HB1 := Lib.hid hb; clear hb KC)
  have hz1 := HB1.out.size
  have HM0 : Hid ((w1.alloc (.map #[] 0)).ownsMap Tryz.prog 72 unitElem w1.heap.size (occsA (l.take 0)).length (setOc (occsA (l.take 0)))) := Lib.hid (World.ownsMap_made _ _ _ _)
  have HB2 := Lib.hid (HB1.out.alloc hz1 (.map #[] 0))
  obtain ⟨B, hB⟩ : ∃ B, w1.heap.size = B := ⟨_, rfl⟩
  rw [hB] at HM0 hz1 ⊢
  clear hB HB1 hmm
  go_loopw [19] (fun i wr => ∃ k : Nat, k ≤ n ∧ i = .int .i64 k ∧ Hid ((occsA (l.take k)).Nodup) ∧ Hid (wr.ownsMap Tryz.prog 72 unitElem B (occsA (l.take k)).length (setOc (occsA (l.take k)))) ∧ Hid (Below w.heap.size w wr)) (fun i _ => n - (intOf i).toNat)
  case atStart => exact ⟨0, by omega, rfl, Lib.hid (by simp [occsA]), HM0, HB2⟩
  case round =>
    obtain ⟨k, hk, rfl, HND, HM, HB⟩ := hrel
    by_cases hlt : k < n
    · obtain ⟨rfl, hbw⟩ := ha (by omega)
      obtain ⟨x, hx⟩ : ∃ x, l[k]? = some x := ⟨_, List.getElem?_eq_getElem (by rw [HN.out]; exact hlt)⟩
      have hxm := List.mem_of_getElem? hx
      have OC := HOC.out x hxm
      obtain ⟨a4, n4, m4, hf4⟩ := formAs (HIN.out x hxm)
      obtain ⟨a5, n5, m5, hf5⟩ := formAc (HIN.out x hxm)
      obtain ⟨c0, c1, c2, c3, c4, c5⟩ := HC.out k x hx
      rw [← HB.out.cell (p := ⟨b, o + k * 6, none⟩) hbw] at c0
      rw [← HB.out.cell (p := ⟨b, o + k * 6 + 1, none⟩) hbw] at c1
      rw [← HB.out.cell (p := ⟨b, o + k * 6 + 2, none⟩) hbw] at c2
      rw [← HB.out.cell (p := ⟨b, o + k * 6 + 3, none⟩) hbw] at c3
      rw [← HB.out.cell (p := ⟨b, o + k * 6 + 4, none⟩) hbw] at c4
      rw [← HB.out.cell (p := ⟨b, o + k * 6 + 5, none⟩) hbw] at c5
      have HGX := Lib.hid (HGO.out x hxm)
      have HSX := Lib.hid (occs_take hx)
      have HBAD : Hid (∀ (j : Nat) y, (occA x)[j]? = some y → y ∈ occsA (l.take k) ++ (occA x).take j → (1 : Int) = Z) := Lib.hid (fun j y hy hm => HNN.out (fun q => occs_sub hx q j y hy hm))
      have hol := HOL.out k
      have hox : (occA x).length ≤ 180002 := by rw [occ_len]; have := HSL.out x hxm; omega
      have HGK := Lib.hid (HGS.out k)
      unfold agZA at OC
      rw [hf4] at c4
      rw [hf5] at c5
      simp only [hf4, hf5] at OC
      obtain ⟨OX, hOX⟩ : ∃ q, occA x = q := ⟨_, rfl⟩
      obtain ⟨OK, hOK⟩ : ∃ q, occsA (l.take k) = q := ⟨_, rfl⟩
      obtain ⟨ON, hON⟩ : ∃ q, occsA (l.take (k + 1)) = q := ⟨_, rfl⟩
      simp only [hOX] at OC
      rw [hOX] at HGX HSX HBAD hox
      rw [hOK] at HSX HBAD HND HM HGK hol
      rw [hON] at HSX
      have HOK := Lib.hid hOK
      have HON := Lib.hid hON
      clear hf4 hf5 hx hOX hOK hON hxm
      generalize (⟨x.nm.toArray⟩ : ByteArray) = X0 at *
      generalize (⟨x.lk.toArray⟩ : ByteArray) = X1 at *
      generalize (⟨x.cr.toArray⟩ : ByteArray) = X3 at *
      generalize x.mn = z2 at *
      have hsz := HB.out.size
      have hBlt := HM.out.lt
      have HB3 := Lib.hid (HB.out.alloc hsz (.cells #[.string X0, .string X1, .bool z2, .string X3, .slice a4 n4 m4, .slice a5 n5 m5] 26))
      have HM3 := Lib.hid (HM.out.alloc (.cells #[.string X0, .string X1, .bool z2, .string X3, .slice a4 n4 m4, .slice a5 n5 m5] 26))
      have j0 : (0 : Int) ≤ (k : Int) := by omega
      have j1 : (k : Int) < (n : Int) := by omega
      obtain ⟨x0, x1, x2, x3, x4, x5⟩ := boxV6 wr (.string X0) (.string X1) (.bool z2) (.string X3) (.slice a4 n4 m4) (.slice a5 n5 m5) 26
      clear HM HB
      go_wp2_with (go_at_call 42; (with_reducible refine (OC _ HB3.out).mono ?_); rintro e w4 ⟨ov, rfl, ho, hb⟩; have HO4 := Lib.hid (OwnV.mono (B := B + 1) ho (by simp; omega)); have HB4 := Lib.hid (HB3.out.trans (hb.mono HB3.out.size)); have HM4 := Lib.hid (World.ownsMap.kept HM3.out (grownV hb) (by simp)); clear ho hb; refine Hid.out ?_)
      clear OC HB3 HM3 x0 x1 x2 x3 x4 x5 c0 c1 c2 c3 c4 c5
      obtain ⟨oa, oc, ob, oo, hov, -, -⟩ := HoldOc.at HO4.out
      clear ob oo
      subst hov
      obtain ⟨m, hM⟩ : ∃ m, OX.length = m := ⟨_, rfl⟩
      have HMM := Lib.hid hM
      rw [hM] at HO4 hox ⊢
      clear hM
      have HO4 : Hid (OwnOc w4 (B + 1) (.slice oa m oc) OX) := HO4
      have HM4 : Hid (w4.ownsMap Tryz.prog 72 unitElem B (OK ++ OX.take 0).length (setOc (OK ++ OX.take 0))) := Lib.hid (by rw [List.take_zero, List.append_nil]; exact HM4.out)
      have HND4 : Hid ((OK ++ OX.take 0).Nodup) := Lib.hid (by rw [List.take_zero, List.append_nil]; exact HND.out)
      clear HND
      refine Lib.hid ?_
      go_wp2
      go_loopw [26] (fun i wr => ∃ j : Nat, j ≤ m ∧ i = .int .i64 j ∧ Hid ((OK ++ OX.take j).Nodup) ∧ Hid (wr.ownsMap Tryz.prog 72 unitElem B (OK ++ OX.take j).length (setOc (OK ++ OX.take j))) ∧ Hid (OwnOc wr (B + 1) (.slice oa m oc) OX) ∧ Hid (Below w.heap.size w wr)) (fun i _ => m - (intOf i).toNat)
      case atStart => exact ⟨0, by omega, rfl, HND4, HM4, HO4, HB4⟩
      case round =>
        obtain ⟨j, hj, rfl, HND, HM, HO, HB⟩ := hrel
        have hsz := HB.out.size
        by_cases hlt : j < m
        · obtain ⟨y, hy⟩ : ∃ y, OX[j]? = some y := ⟨_, List.getElem?_eq_getElem (by rw [HMM.out]; exact hlt)⟩
          obtain ⟨a', c', b', o', e', ha', hcell'⟩ := HoldOc.at HO.out
          rw [HMM.out] at e' ha'
          simp only [Value.slice.injEq] at e'
          obtain ⟨rfl, -, rfl⟩ := e'
          obtain ⟨rfl, hbw'⟩ := ha' (by omega)
          obtain ⟨d0, d1⟩ := hcell' j y hy
          have hgy := HGX.out y (List.mem_of_getElem? hy)
          have HKY := Lib.hid (lit_is hgy)
          have HHAS := Lib.hid (setOc_has (OK ++ OX.take j) (fun q hq => (List.mem_append.1 hq).elim (HGK.out q) (fun g => HGX.out q (List.mem_of_mem_take g))) hgy)
          have HB5 := Lib.hid (HBAD.out j y hy)
          have hsn : OK ++ OX.take (j + 1) = (OK ++ OX.take j) ++ [y] := by rw [List.take_add_one, hy, List.append_assoc]; rfl
          have HNX : Hid (y ∉ OK ++ OX.take j → (OK ++ OX.take (j + 1)).Nodup) := Lib.hid (fun g => by
            rw [hsn, List.nodup_append]
            exact ⟨HND.out, by simp, fun p hp q hq e => by simp at hq; subst hq; subst e; exact g hp⟩)
          have hln : (OK ++ OX.take j).length ≤ 90000 * 180002 + 180002 := by rw [List.length_append, List.length_take]; omega
          have HPUT : Hid (∀ W : World, W.ownsMap Tryz.prog 72 unitElem B ((OK ++ OX.take j).length + 1) ((setOc (OK ++ OX.take j)).put (litOc y) (.agg [])) → W.ownsMap Tryz.prog 72 unitElem B (OK ++ OX.take (j + 1)).length (setOc (OK ++ OX.take (j + 1)))) := Lib.hid (fun W h => by
            rw [hsn, setOc_snoc, List.length_append]; exact h)
          obtain ⟨ky, sy⟩ := y
          dsimp only at d0 d1
          unfold valOc at HKY
          dsimp only at HKY
          by_cases hin : (ky, sy) ∈ OK ++ OX.take j
          · have HF := Lib.hid (HB5.out hin)
            have hhas := HHAS.out
            rw [decide_eq_true hin] at hhas
            have HHA := Lib.hid hhas
            clear hin hhas HHAS HNX HPUT hsn hy hgy hcell' HBAD HGX HGK
            generalize (⟨sy.toArray⟩ : ByteArray) = Y at *
            generalize litOc (ky, sy) = kl at *
            generalize setOc (OK ++ OX.take j) = D at *
            generalize (OK ++ OX.take j).length = q at *
            have HM6 := Lib.hid (HM.out.alloc (.cells #[.int .i64 ky, .string Y] 72))
            have HB6 := Lib.hid (HB.out.alloc hsz (.cells #[.int .i64 ky, .string Y] 72))
            obtain ⟨y0, y1⟩ := boxV2 wr (.int .i64 ky) (.string Y) 72
            have j0 : (0 : Int) ≤ (j : Int) := by omega
            have j1 : (j : Int) < (m : Int) := by omega
            clear HM HB HO
            go_wp2_with (at_lookup; refine wpList_lookup_own_unit _ rfl _ _ 68 rfl 72 73 lawOc Tryz.underlying68 (zeroUnit _) B q D rfl HM6.out _ _ rfl HKY.out ?_; rw [HHA.out])
            go_ret
            exact ⟨reti HF.out, (HB6.out.alloc (by simp; omega) _)⟩
          · have HND2 := Lib.hid (HNX.out hin)
            have hhas := HHAS.out
            rw [decide_eq_false hin] at hhas
            have HHA := Lib.hid hhas
            have HYY : Hid (GoodOc (ky, sy)) := Lib.hid hgy
            clear hin hhas HHAS HNX hsn hy hgy hcell' HBAD HGX HGK HB5
            generalize (⟨sy.toArray⟩ : ByteArray) = Y at *
            generalize litOc (ky, sy) = kl at *
            generalize setOc (OK ++ OX.take j) = D at *
            generalize (OK ++ OX.take j).length = q at *
            have HM6 := Lib.hid (HM.out.alloc (.cells #[.int .i64 ky, .string Y] 72))
            have HB6 := Lib.hid (HB.out.alloc hsz (.cells #[.int .i64 ky, .string Y] 72))
            have HM7 := Lib.hid (HM6.out.alloc (.cells #[] 73))
            have HB7 := Lib.hid (HB6.out.alloc (by simp; omega) (.cells #[] 73))
            have HO7 := Lib.hid (OwnV.on HO.out (((Below.refl wr.heap.size wr).alloc (Nat.le_refl _) (.cells #[.int .i64 ky, .string Y] 72)).alloc (by simp) (.cells #[] 73)))
            obtain ⟨y0, y1⟩ := boxV2 wr (.int .i64 ky) (.string Y) 72
            have j0 : (0 : Int) ≤ (j : Int) := by omega
            have j1 : (j : Int) < (m : Int) := by omega
            clear HM HB HO
            go_wp2_with (first
              | (at_lookup; refine wpList_lookup_own_unit _ rfl _ _ 68 rfl 72 73 lawOc Tryz.underlying68 (zeroUnit _) B q D rfl HM6.out _ _ rfl HKY.out ?_; rw [HHA.out])
              | (at_mapUpdate; refine wpList_mapUpdate_own _ rfl _ _ _ 68 rfl 72 73 lawOc Tryz.underlying68 _ B q D rfl HM7.out (by unfold maxLen; omega) _ _ _ rfl rfl HKY.out _ [] unitElem_mk ?_; intro w8 hm8 hg8; have HM8 := Lib.hid (HPUT.out _ hm8); have HB8 := Lib.hid (HB7.out.grown hg8 HB7.out.size (fun k hk => by cases hk; omega)); have HO8 := Lib.hid (OwnV.grownM HO7.out hg8 (by omega)); clear hm8 hg8))
            go_roundw
            case rel => exact ⟨j + 1, by omega, by go_num, HND2, HM8, HO8, HB8⟩
            case measure => simp [intOf]; omega
        · obtain rfl : j = m := by omega
          have HFX : Hid (OX.take j = OX) := Lib.hid (List.take_of_length_le (by rw [HMM.out]; omega))
          have HND9 : Hid ((occsA (l.take (k + 1))).Nodup) := Lib.hid (by rw [HON.out, HSX.out, ← HFX.out]; exact HND.out)
          have HM9 : Hid (wr.ownsMap Tryz.prog 72 unitElem B (occsA (l.take (k + 1))).length (setOc (occsA (l.take (k + 1))))) := Lib.hid (by rw [HON.out, HSX.out, ← HFX.out]; exact HM.out)
          clear hlt HND HM HO HFX HSX
          go_wp2
          go_roundw
          case rel => exact ⟨k + 1, by omega, by go_num, HND9, HM9, HB⟩
          case measure => simp [intOf]; omega
    · obtain rfl : k = n := by omega
      have HF : Hid ((0 : Int) = Z) := Lib.hid (HYS.out (by have := HND.out; rw [List.take_of_length_le (by rw [HN.out]; omega)] at this; exact this))
      clear hlt HND HM HYS HNN
      go_wp2
      go_ret
      exact ⟨reti HF.out, HB.out⟩
end Go.Proofs.YtnfhccnicojdcaaGreatDoor
