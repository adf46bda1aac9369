/-
  The program's Parse of the example's text, and the example itself: what each returns; nothing old turns. Condition: LaidU. The law StatusWords, walked: true; nothing old turns. Condition: LaidU.
-/
import Derived.Test.YtbeoklihpkfofaaGreatDoorURec
import Derived.Test.YtbeoklihpkfofaaGreatDoorSPParse
namespace Go.Proofs.YtbeoklihpkfofaaGreatDoor
open Go.RowKit Go.Shelf
theorem infoU : (Tryz.prog.info? 32).map (fun i => (i.zero, i.size, i.bytes)) = some (some (.agg #[.string ⟨#[]⟩, .string ⟨#[]⟩, .int .i64 0, .slice none 0 0, .slice none 0 0, .slice none 0 0, .slice none 0 0, .slice none 0 0, .slice none 0 0]), 9, 184) := by kernel_rfl
theorem hold_exU {w : World} {b c : Nat} {a3 a4 a5 a7 a8 : Option Addr} {m3 m4 m5 m7 m8 : Nat} (hb : b < w.heap.size) (hc : 1 ≤ c) (h : ∀ (i : Nat) y, (cellsU (exU a3 a4 a5 none a7 a8 m3 m4 m5 0 m7 m8))[i]? = some y → w.cell? ⟨b, i, none⟩ = some y) : HoldU w (.slice (some ⟨b, 0, none⟩) 1 c) [exU a3 a4 a5 none a7 a8 m3 m4 m5 0 m7 m8] := by
  refine ⟨⟨some ⟨b, 0, none⟩, c, b, 0, rfl, hc, fun _ => ⟨rfl, hb⟩, fun j r hj i y hi hy => ?_⟩, fun x hx => ?_⟩
  · match j, hj with
    | 0, hj =>
      have e : r = cellsU (exU a3 a4 a5 none a7 a8 m3 m4 m5 0 m7 m8) := by cases hj; rfl
      rw [e] at hy
      rw [show 0 + 0 * 9 + i = i from by omega]
      exact h i y hy
    | j + 1, hj => simp at hj
  · simp at hx
    subst hx
    exact ⟨⟨⟨_, _, 0, 0, rfl, Nat.zero_le _, fun h => absurd h (by simp), fun j l hj => by simp at hj⟩, fun x hx => by simp at hx⟩,
      ⟨_, _, 0, 0, rfl, Nat.zero_le _, fun h => absurd h (by simp), fun j l hj => by simp at hj⟩,
      ⟨_, _, 0, 0, rfl, Nat.zero_le _, fun h => absurd h (by simp), fun j l hj => by simp at hj⟩,
      ⟨_, _, 0, 0, rfl, Nat.zero_le _, fun h => absurd h (by simp), fun j l hj => by simp at hj⟩,
      ⟨_, _, 0, 0, rfl, Nat.zero_le _, fun h => absurd h (by simp), fun j l hj => by simp at hj⟩,
      ⟨_, _, 0, 0, rfl, Nat.zero_le _, fun h => absurd h (by simp), fun j l hj => by simp at hj⟩⟩
theorem uu_one {w : World} {base : Nat} {v : Value} {a3 a4 a5 a7 a8 : Option Addr} {m3 m4 m5 m7 m8 : Nat} (h : w.ownsRow base 32 9 v 1 (cellsU (exU a3 a4 a5 none a7 a8 m3 m4 m5 0 m7 m8))) : ∃ b c, v = .slice (some ⟨b, 0, none⟩) 1 c ∧ HoldU w (.slice (some ⟨b, 0, none⟩) 1 c) [exU a3 a4 a5 none a7 a8 m3 m4 m5 0 m7 m8] := by
  rcases h.2 with ⟨rfl, h0⟩ | ⟨g, cap, cur, rfl, hb, hg, hn, hm, hs, ht⟩
  · cases h0
  · refine ⟨g, cap, rfl, hold_exU (Array.getElem?_eq_some_iff.1 hg).1 hn (fun i y hy => ?_)⟩
    have hi : i < 9 := (List.getElem?_eq_some_iff.1 hy).1
    rw [cellRow w g i cur 32 (0, 0) hg, ← Array.getElem?_toList]
    have : (cur.toList.take (1 * 9))[i]? = some y := by rw [ht]; exact hy
    rw [List.getElem?_take, if_pos (by omega)] at this
    exact this
set_option maxRecDepth 100000 in
set_option maxHeartbeats 16000000 in
theorem parse1 (w : World) (hL : LaidU w) : Calls Tryz.prog 32 #[.string textU1] w fun e w' => ∃ b c a3 a4 a5 a7 a8 m3 m4 m5 m7 m8, e = .returned (.tuple #[.slice (some ⟨b, 0, none⟩) 1 c, .int .i64 0]) ∧ HoldU w' (.slice (some ⟨b, 0, none⟩) 1 c) [exU a3 a4 a5 none a7 a8 m3 m4 m5 0 m7 m8] ∧ Below w.heap.size w w' := by
  have SP : Calls Tryz.prog 61 #[.string textU1] w fun e w' => ∃ b o c, e = .returned (.tuple #[.slice (some ⟨b, o, none⟩) 1 c, .int .i64 0]) ∧ 1 ≤ c ∧ b < w'.heap.size ∧ (∃ a n k, w'.cell? ⟨b, o, none⟩ = some (.slice a n k) ∧ HoldR 2 w' (.slice a n k) (rowsU.map rowF)) ∧ Below w.heap.size w w' := by
    refine (sparse_post textU1 (by decide) w).mono fun e w' h => ?_
    obtain ⟨v, z, he, h1, -, hb⟩ := h
    obtain ⟨hz, a, c, b, o, hv, hc, ha, hcell⟩ := h1 [rowsU] (by decide +kernel)
    obtain ⟨rfl, hbw⟩ := ha (by simp)
    obtain ⟨u, hu, hr⟩ := hcell 0 _ rfl
    have hr' := hr
    obtain ⟨ua, uc, ub, uo, e', _⟩ := hr'
    subst e'
    exact ⟨b, o, c, by rw [he, hz, hv]; rfl, hc, hbw, ⟨_, _, _, hu, hr⟩, hb⟩
  have RE := fun (u : Value) W (hb : Below w.heap.size w W) (h : HoldR 2 W u (rowsU.map rowF)) => record1 u W (hL.on hb) h
  have PR := fun (b c : Nat) (a3 a4 a5 a7 a8 : Option Addr) (m3 m4 m5 m7 m8 : Nat) W (hb : Below w.heap.size w W) (h : HoldU W (.slice (some ⟨b, 0, none⟩) 1 c) [exU a3 a4 a5 none a7 a8 m3 m4 m5 0 m7 m8]) => print1 a3 a4 a5 none a7 a8 m3 m4 m5 0 m7 m8 _ W (hL.on hb) h
  have hT : (textU1.toList == textU1.toList) = true := by simp
  generalize textU1 = TX at *
  obtain ⟨i0, hi, hz0, hz1, hz2'⟩ := info_parts infoU
  clear hL
  go_enter Tryz.func32, Tryz.ntmps32
  go_wp2_with (go_at_call 61; (with_reducible refine SP.mono ?_); rintro e w1 ⟨sb, so, sc, rfl, hc1, hb1, ⟨ra, rn, rk, hcl, hrr⟩, hb⟩; have HB1 := Lib.hid hb; have HCL := Lib.hid hcl; have HRR := Lib.hid hrr; clear hcl hrr hb)
  clear SP
  go_loopw [6, 21, 8] (fun u i _ wr => ∃ k : Nat, k ≤ 1 ∧ i = .int .i64 k ∧ Hid (Below w1.heap.size w1 wr) ∧ Hid ((k = 0 ∧ u = .slice none 0 0) ∨ (k = 1 ∧ ∃ b c a3 a4 a5 a7 a8 m3 m4 m5 m7 m8, u = .slice (some ⟨b, 0, none⟩) 1 c ∧ HoldU wr (.slice (some ⟨b, 0, none⟩) 1 c) [exU a3 a4 a5 none a7 a8 m3 m4 m5 0 m7 m8]))) (fun _ i _ _ => 1 - (intOf i).toNat)
  case atStart => exact ⟨0, by omega, rfl, Lib.hid (Below.refl _ _), Lib.hid (.inl ⟨rfl, rfl⟩)⟩
  case round =>
    obtain ⟨k, hk, rfl, HB, HU⟩ := hrel
    rcases HU.out with ⟨rfl, rfl⟩ | ⟨rfl, ub, uc, a3, a4, a5, a7, a8, m3, m4, m5, m7, m8, rfl, hu⟩
    · have q0 := (HB.out.cell (p := ⟨sb, so, none⟩) hb1).trans HCL.out
      have HBW : Hid (Below w.heap.size w wr) := Lib.hid (HB1.out.trans (HB.out.mono HB1.out.size))
      have R1 := RE _ _ HBW.out (HRR.out.on HB.out)
      clear HU
      go_wp2_with (first
        | (go_at_call 62; (with_reducible refine R1.mono ?_); rintro e w3 ⟨a3, a4, a5, a7, a8, m3, m4, m5, m7, m8, rfl, hb⟩; have HB3 := Lib.hid (HB.out.trans (hb.mono HB.out.size)); clear hb)
        | (at_builtin; refine wpList_append_own _ rfl _ _ 34 rfl w3.heap.size 32 i0 _ 9 184 Tryz.underlying34 hi hz0 hz1 hz2' rfl (by decide) _ 0 [] rfl (World.ownsRow_nil _ _ _ _) ⟨w3.heap.size, 0, none⟩ 1 1 [.string ⟨#[97]⟩, .string ⟨#[49]⟩, .int .i64 7, .slice a3 0 m3, .slice a4 0 m4, .slice a5 0 m5, .slice none 0 0, .slice a7 0 m7, .slice a8 0 m8] rfl rfl (by intro j u hj; match j, hj with | 0, hj => simp at hj; subst hj; simp [Addr.add] | 1, hj => simp at hj; subst hj; simp [Addr.add] | 2, hj => simp at hj; subst hj; simp [Addr.add] | 3, hj => simp at hj; subst hj; simp [Addr.add] | 4, hj => simp at hj; subst hj; simp [Addr.add] | 5, hj => simp at hj; subst hj; simp [Addr.add] | 6, hj => simp at hj; subst hj; simp [Addr.add] | 7, hj => simp at hj; subst hj; simp [Addr.add] | 8, hj => simp at hj; subst hj; simp [Addr.add] | j + 9, hj => simp at hj) (by intro u hu; simp at hu; rcases hu with rfl | rfl | rfl | rfl | rfl | rfl | rfl | rfl | rfl <;> rfl) (by unfold maxLen; omega) (by omega) (by simp) ?_))
      intro v' w4 hown' hgrow _
      have hb4 : Below w3.heap.size w3 w4 := ((Below.refl w3.heap.size w3).alloc (Nat.le_refl _) _).grown hgrow (by simp) (fun k hk => by simp [Value.ownBlock] at hk)
      obtain ⟨ub, uc, hv', hu⟩ := uu_one (a3 := a3) (a4 := a4) (a5 := a5) (a7 := a7) (a8 := a8) (m3 := m3) (m4 := m4) (m5 := m5) (m7 := m7) (m8 := m8) hown'
      subst hv'
      have HB4 : Hid (Below w1.heap.size w1 w4) := Lib.hid (HB3.out.trans (hb4.mono HB3.out.size))
      have HUU := Lib.hid hu
      clear hown' hgrow hb4 hu
      go_wp2
      go_roundw
      case rel => exact ⟨1, by omega, rfl, HB4, Lib.hid (.inr ⟨rfl, ub, uc, a3, a4, a5, a7, a8, m3, m4, m5, m7, m8, rfl, HUU.out⟩)⟩
      case measure => simp [intOf]
    · have HBW : Hid (Below w.heap.size w wr) := Lib.hid (HB1.out.trans (HB.out.mono HB1.out.size))
      have P1 := PR _ _ _ _ _ _ _ _ _ _ _ _ wr HBW.out hu
      have HUU := Lib.hid hu
      clear PR hu HU
      go_wp2_with (go_at_call 29; (with_reducible refine P1.mono ?_); rintro e w3 ⟨rfl, hb⟩; have HB3 := Lib.hid (HBW.out.trans (hb.mono HBW.out.size)); have HU3 := Lib.hid (HoldU.on HUU.out hb); clear hb)
      go_ret2
      exact ⟨_, _, _, _, _, _, _, _, _, _, _, _, rfl, HU3.out, HB3.out⟩
set_option maxRecDepth 100000 in
set_option maxHeartbeats 16000000 in
theorem awake8 (w : World) (hL : LaidU w) : Calls Tryz.prog 8 #[] w fun e w' => e = .returned (.bool true) ∧ Below w.heap.size w w' := by
  have B0 := (Below.refl w.heap.size w).alloc (Nat.le_refl _) (.cells #[.string ⟨#[97]⟩, .string ⟨#[49]⟩, .int .i64 7, .slice none 0 0, .slice none 0 0, .slice none 0 0, .slice none 0 0, .slice none 0 0, .slice none 0 0] 32)
  have HH : HoldU (w.alloc (.cells #[.string ⟨#[97]⟩, .string ⟨#[49]⟩, .int .i64 7, .slice none 0 0, .slice none 0 0, .slice none 0 0, .slice none 0 0, .slice none 0 0, .slice none 0 0] 32)) (.slice (some ⟨w.heap.size, 0, none⟩) 1 1) [exU none none none none none none 0 0 0 0 0 0] := hold_exU (by simp) (Nat.le_refl _) (fun i y hy => by
    rw [World.cell?_alloc_new]
    rw [← hy]
    match i with
    | 0 | 1 | 2 | 3 | 4 | 5 | 6 | 7 | 8 => rfl
    | i + 9 => rfl)
  have P1 := print1 none none none none none none 0 0 0 0 0 0 _ _ (hL.on B0) HH
  have PA := fun W (hb : Below w.heap.size w W) => parse1 W (hL.on hb)
  have ST := fun (a3 a4 a5 a7 a8 : Option Addr) (m3 m4 m5 m7 m8 : Nat) W => settled_any ⟨#[97]⟩ ⟨#[49]⟩ 7 a3 a4 a5 none a7 a8 0 0 0 0 0 0 m3 m4 m5 0 m7 m8 W
  simp only [Nat.lt_irrefl, if_false] at ST
  have HB0 := Lib.hid B0
  clear B0 HH hL
  go_enter Tryz.func8, Tryz.ntmps8
  go_wp2_with (first
    | (go_at_call 29; (with_reducible refine P1.mono ?_); rintro e w1 ⟨rfl, hb⟩; have HB1 := Lib.hid (HB0.out.trans (hb.mono HB0.out.size)); clear hb)
    | (go_at_call 32; (with_reducible refine (PA _ HB1.out).mono ?_); rintro e w2 ⟨ub, uc, a3, a4, a5, a7, a8, m3, m4, m5, m7, m8, rfl, hu, hb⟩; have HB2 := Lib.hid (HB1.out.trans (hb.mono HB1.out.size)); obtain ⟨va, vc, b, o, e', hc, ha, hcell⟩ := hu.parts; simp only [Value.slice.injEq] at e'; obtain ⟨rfl, -, rfl⟩ := e'; obtain ⟨hab, hbw⟩ := ha (by simp); simp only [Option.some.injEq, Addr.mk.injEq] at hab; obtain ⟨rfl, rfl, -⟩ := hab; obtain ⟨x0, x1, x2, x3, x4, x5, x6, x7, x8⟩ := hcell 0 _ rfl; simp only [Nat.zero_mul, Nat.add_zero, Nat.zero_add] at x0 x1 x2 x3 x4 x5 x6 x7 x8; have hc1 : 1 ≤ uc := hc; clear hb hu hcell ha hc)
    | (go_at_call 18; (with_reducible refine (ST _ _ _ _ _ _ _ _ _ _ _).mono ?_); rintro e w3 ⟨rfl, hb⟩; have HB3 := Lib.hid (HB2.out.trans (hb.mono HB2.out.size)); clear hb))
  go_ret
  exact ⟨rfl, HB3.out⟩
end Go.Proofs.YtbeoklihpkfofaaGreatDoor
namespace Go.Proofs.YtbeoklihpkfofaaGreatDoor
open Go.RowKit Go.Shelf
namespace UWordsW
set_option maxRecDepth 100000 in
set_option maxHeartbeats 16000000 in
theorem walk (z : Int) (s : ByteArray) (hs : s.size ≤ maxLen) (w : World) (hL : LaidU w) : Calls Tryz.prog 3 #[.int .i64 z, .string s] w fun e w' => e = .returned (.bool true) ∧ Below w.heap.size w w' := by
  have HL := Lib.hid hL
  have AW := fun W (hb : Below w.heap.size w W) => awake8 W (HL.out.on hb)
  by_cases hl : 1000 < s.size
  · have hb0 := Below.refl w.heap.size w
    have A0 := AW w hb0
    clear AW hL
    unfold maxLen at hs
    go_enter Tryz.func3, Tryz.ntmps3
    go_wp2_with (go_at_call 8; (with_reducible refine A0.mono ?_); rintro e w1 ⟨rfl, hb⟩; have HB := Lib.hid hb; clear hb)
    go_ret
    exact ⟨rfl, HB.out⟩
  · have C1 := word_any z w hL
    have C2 := fun W => word_ref z W
    have C3 := fun W (hb : Below w.heap.size w W) => state_any s W (HL.out.on hb)
    have C4 := fun W => state_ref s W
    have C5 := fun W (hb : Below w.heap.size w W) => trig_any s (by omega) W (HL.out.on hb).p
    have C6 := fun W => trig_ref s (by omega) W
    generalize bsT (wordU z) = X at *
    generalize stateU s.data.toList = y at *
    generalize trigB s.data.toList = q at *
    clear hL
    go_enter Tryz.func3, Tryz.ntmps3
    go_wp2_with (first
      | (go_at_call 9; (with_reducible refine C1.mono ?_); rintro e w1 ⟨rfl, hb⟩; have HB1 := Lib.hid hb; clear hb)
      | (go_at_call 10; (with_reducible refine (C2 _).mono ?_); rintro e w2 ⟨rfl, rfl⟩)
      | (go_at_call 11; (with_reducible refine (C3 _ HB1.out).mono ?_); rintro e w3 ⟨rfl, hb⟩; have HB3 := Lib.hid (HB1.out.trans (hb.mono HB1.out.size)); clear hb)
      | (go_at_call 12; (with_reducible refine (C4 _).mono ?_); rintro e w4 ⟨rfl, rfl⟩)
      | (go_at_call 13; (with_reducible refine (C5 _ HB3.out).mono ?_); rintro e w5 ⟨rfl, hb⟩; have HB5 := Lib.hid (HB3.out.trans (hb.mono HB3.out.size)); clear hb)
      | (go_at_call 14; (with_reducible refine (C6 _).mono ?_); rintro e w6 ⟨rfl, hb⟩; have HB6 := Lib.hid (HB5.out.trans (hb.mono HB5.out.size)); clear hb)
      | (go_at_call 8; (with_reducible refine (AW _ HB6.out).mono ?_); rintro e w7 ⟨rfl, hb⟩; have HB7 := Lib.hid (HB6.out.trans (hb.mono HB6.out.size)); clear hb))
    go_ret
    exact ⟨rfl, HB7.out⟩
end UWordsW
end Go.Proofs.YtbeoklihpkfofaaGreatDoor
