import Derived.Test.YtnnagboeimeiiaaGreatDoorWUWord
import Derived.Test.YtnnagboeimeiiaaGreatDoorWUKeyF
import Derived.Test.YtnnagboeimeiiaaGreatDoorWBTexts
import Derived.Test.YtnnagboeimeiiaaGreatDoorWQCut
import Derived.Test.YtnnagboeimeiiaaGreatDoorWSPLines2
import Derived.Test.YtnnagboeimeiiaaGreatDoorWSPPrint
import Derived.Test.YtnnagboeimeiiaaGreatDoorWSPRead
import Derived.Test.YtnnagboeimeiiaaGreatDoorWUKey
namespace Go.Proofs.YtnnagboeimeiiaaGreatDoor
open Go.RowKit Go.Shelf
set_option maxRecDepth 100000 in
set_option maxHeartbeats 4000000 in
theorem settled_any (X0 X1 : ByteArray) (z : Int) (a3 a4 a5 a6 a7 a8 : Option Addr) (n3 n4 n5 n6 n7 n8 m3 m4 m5 m6 m7 m8 : Nat) (w : World) : Calls Tryz.prog 18 #[.agg #[.string X0, .string X1, .int .i64 z, .slice a3 n3 m3, .slice a4 n4 m4, .slice a5 n5 m5, .slice a6 n6 m6, .slice a7 n7 m7, .slice a8 n8 m8]] w fun e w' => e = .returned (.int .i64 (if 0 < n8 then 5 else if 0 < n7 then 6 else 7)) ∧ Below w.heap.size w w' := by
 obtain ⟨x0, x1, x2, x3, x4, x5, x6, x7, x8⟩ := boxV9 w (.string X0) (.string X1) (.int .i64 z) (.slice a3 n3 m3) (.slice a4 n4 m4) (.slice a5 n5 m5) (.slice a6 n6 m6) (.slice a7 n7 m7) (.slice a8 n8 m8) 43
 have B0 := (Below.refl w.heap.size w).alloc (Nat.le_refl _) (.cells #[.string X0, .string X1, .int .i64 z, .slice a3 n3 m3, .slice a4 n4 m4, .slice a5 n5 m5, .slice a6 n6 m6, .slice a7 n7 m7, .slice a8 n8 m8] 43)
 by_cases h8 : 0 < n8
 · rw [if_pos h8]
   go_enter Tryz.func18, Tryz.ntmps18
   go_wp2
   go_ret
   exact ⟨rfl, B0⟩
 · rw [if_neg h8]
   by_cases h7 : 0 < n7
   · rw [if_pos h7]
     go_enter Tryz.func18, Tryz.ntmps18
     go_wp2
     go_ret
     exact ⟨rfl, B0⟩
   · rw [if_neg h7]
     go_enter Tryz.func18, Tryz.ntmps18
     go_wp2
     go_ret
     exact ⟨rfl, B0⟩
set_option maxRecDepth 100000 in
set_option maxHeartbeats 4000000 in
theorem rightVer1 (w : World) (h : LaidV w) : Calls Tryz.prog 47 #[.string ⟨#[49]⟩] w fun e w' => e = .returned (.bool true) ∧ Below w.heap.size w w' := by
 have P := parse_any ⟨#[49]⟩ (by decide) w h
 unfold ParsePost at P
 have HE : parseV (ByteArray.mk #[49]).data.toList = .tuple #[.agg #[.int .i64 0, .string ⟨#[49]⟩, .string ⟨#[48]⟩], .int .i64 0] := by
   have hv : verOf [49] = some (0, [49], [48]) := by decide +kernel
   exact parseV_some (l := [49]) (by decide) hv
 rw [HE] at P
 clear HE h
 go_enter Tryz.func47, Tryz.ntmps47
 go_wp2_with (go_at_call 95; (with_reducible refine P.mono ?_); rintro e w1 ⟨rfl, hb⟩; have HB := Lib.hid hb; clear hb)
 go_ret
 exact ⟨rfl, HB.out.alloc HB.out.size _⟩
set_option maxRecDepth 100000 in
set_option maxHeartbeats 4000000 in
theorem rightState1 (a3 a4 a5 a6 a7 a8 : Option Addr) (m3 m4 m5 m6 m7 m8 : Nat) (w : World) (hL : LaidU w) : Calls Tryz.prog 48 #[.agg #[.string ⟨#[97]⟩, .string ⟨#[49]⟩, .int .i64 7, .slice a3 0 m3, .slice a4 0 m4, .slice a5 0 m5, .slice a6 0 m6, .slice a7 0 m7, .slice a8 0 m8]] w fun e w' => e = .returned (.bool true) ∧ Below w.heap.size w w' := by
 obtain ⟨x0, x1, x2, x3, x4, x5, x6, x7, x8⟩ := boxV9 w (.string ⟨#[97]⟩) (.string ⟨#[49]⟩) (.int .i64 7) (.slice a3 0 m3) (.slice a4 0 m4) (.slice a5 0 m5) (.slice a6 0 m6) (.slice a7 0 m7) (.slice a8 0 m8) 43
 have B0 := (Below.refl w.heap.size w).alloc (Nat.le_refl _) (.cells #[.string ⟨#[97]⟩, .string ⟨#[49]⟩, .int .i64 7, .slice a3 0 m3, .slice a4 0 m4, .slice a5 0 m5, .slice a6 0 m6, .slice a7 0 m7, .slice a8 0 m8] 43)
 have HL := Lib.hid (hL.on B0)
 have B0 := Lib.hid B0
 have hlt : w.heap.size < (w.alloc (.cells #[.string ⟨#[97]⟩, .string ⟨#[49]⟩, .int .i64 7, .slice a3 0 m3, .slice a4 0 m4, .slice a5 0 m5, .slice a6 0 m6, .slice a7 0 m7, .slice a8 0 m8] 43)).heap.size := by simp
 have HB0 := Lib.hid (Below.refl (w.alloc (.cells #[.string ⟨#[97]⟩, .string ⟨#[49]⟩, .int .i64 7, .slice a3 0 m3, .slice a4 0 m4, .slice a5 0 m5, .slice a6 0 m6, .slice a7 0 m7, .slice a8 0 m8] 43)).heap.size (w.alloc (.cells #[.string ⟨#[97]⟩, .string ⟨#[49]⟩, .int .i64 7, .slice a3 0 m3, .slice a4 0 m4, .slice a5 0 m5, .slice a6 0 m6, .slice a7 0 m7, .slice a8 0 m8] 43)))
 have C1 := fun W (hb : Below (w.alloc (.cells #[.string ⟨#[97]⟩, .string ⟨#[49]⟩, .int .i64 7, .slice a3 0 m3, .slice a4 0 m4, .slice a5 0 m5, .slice a6 0 m6, .slice a7 0 m7, .slice a8 0 m8] 43)).heap.size (w.alloc (.cells #[.string ⟨#[97]⟩, .string ⟨#[49]⟩, .int .i64 7, .slice a3 0 m3, .slice a4 0 m4, .slice a5 0 m5, .slice a6 0 m6, .slice a7 0 m7, .slice a8 0 m8] 43)) W) => word_any 7 W (HL.out.on hb)
 have hw7 : bsT (wordU 7) = ⟨#[105, 110, 115, 116, 97, 108, 108, 101, 100]⟩ := rfl
 rw [hw7] at C1
 have C2 := fun W => settled_any ⟨#[97]⟩ ⟨#[49]⟩ 7 a3 a4 a5 a6 a7 a8 0 0 0 0 0 0 m3 m4 m5 m6 m7 m8 W
 simp only [Nat.lt_irrefl, if_false] at C2
 clear hw7
 clear hL
 go_enter Tryz.func48, Tryz.ntmps48
 go_wp2_with (first
   | (go_at_call 69; (with_reducible refine (C1 _ HB0.out).mono ?_); rintro e w1 ⟨rfl, hb⟩; have HB1 := Lib.hid (HB0.out.trans (hb.mono HB0.out.size)); have y1_0 := (HB1.out.cell (p := ⟨w.heap.size, 0, none⟩) hlt).trans x0; have y1_1 := (HB1.out.cell (p := ⟨w.heap.size, 1, none⟩) hlt).trans x1; have y1_2 := (HB1.out.cell (p := ⟨w.heap.size, 2, none⟩) hlt).trans x2; have y1_3 := (HB1.out.cell (p := ⟨w.heap.size, 3, none⟩) hlt).trans x3; have y1_4 := (HB1.out.cell (p := ⟨w.heap.size, 4, none⟩) hlt).trans x4; have y1_5 := (HB1.out.cell (p := ⟨w.heap.size, 5, none⟩) hlt).trans x5; have y1_6 := (HB1.out.cell (p := ⟨w.heap.size, 6, none⟩) hlt).trans x6; have y1_7 := (HB1.out.cell (p := ⟨w.heap.size, 7, none⟩) hlt).trans x7; have y1_8 := (HB1.out.cell (p := ⟨w.heap.size, 8, none⟩) hlt).trans x8; clear hb)
   | (go_at_call 18; (with_reducible refine (C2 _).mono ?_); rintro e w2 ⟨rfl, hb⟩; have HB2 := Lib.hid (HB1.out.trans (hb.mono HB1.out.size)); clear hb))
 go_ret
 exact ⟨rfl, B0.out.trans (HB2.out.mono B0.out.size)⟩
set_option maxRecDepth 100000 in
set_option maxHeartbeats 4000000 in
theorem rightRels1 (a3 a4 a5 a6 a7 a8 : Option Addr) (m3 m4 m5 m6 m7 m8 : Nat) (w : World) (hL : LaidU w) : Calls Tryz.prog 49 #[.agg #[.string ⟨#[97]⟩, .string ⟨#[49]⟩, .int .i64 7, .slice a3 0 m3, .slice a4 0 m4, .slice a5 0 m5, .slice a6 0 m6, .slice a7 0 m7, .slice a8 0 m8]] w fun e w' => e = .returned (.bool true) ∧ Below w.heap.size w w' := by
 have HG : ∀ W, HoldGs W (.slice a3 0 m3) ([] : List Gv) := fun W => ⟨⟨a3, m3, 0, 0, rfl, Nat.zero_le _, fun h => absurd h (by simp), fun j l hj => by simp at hj⟩, fun x hx => by simp at hx⟩
 have HQ : ∀ W, HoldQ W (.slice a4 0 m4) [] := fun W => ⟨a4, m4, 0, 0, rfl, Nat.zero_le _, fun h => absurd h (by simp), fun j l hj => by simp at hj⟩
 have HL := Lib.hid hL
 have C1 := fun W (hb : Below w.heap.size w W) => all_any (.slice a3 0 m3) [] (by simp) (fun x hx => by simp at hx) W (HG W) (HL.out.on hb).q.v
 have C2 := fun W (hb : Below w.heap.size w W) => listQ_any (.slice a4 0 m4) [] (by simp) (fun x hx => by simp at hx) W (HQ W) (HL.out.on hb).q.v
 unfold TwoP at C1 C2
 have e1 : allE (fsts ([] : List Gv)) = ([], 0) := by decide +kernel
 have e2 : listE [] = ([], 0) := by decide +kernel
 rw [e1] at C1
 rw [e2] at C2
 clear HG HQ e1 e2 hL
 obtain ⟨x0, x1, x2, x3, x4, x5, x6, x7, x8⟩ := boxV9 w (.string ⟨#[97]⟩) (.string ⟨#[49]⟩) (.int .i64 7) (.slice a3 0 m3) (.slice a4 0 m4) (.slice a5 0 m5) (.slice a6 0 m6) (.slice a7 0 m7) (.slice a8 0 m8) 43
 have B0 := (Below.refl w.heap.size w).alloc (Nat.le_refl _) (.cells #[.string ⟨#[97]⟩, .string ⟨#[49]⟩, .int .i64 7, .slice a3 0 m3, .slice a4 0 m4, .slice a5 0 m5, .slice a6 0 m6, .slice a7 0 m7, .slice a8 0 m8] 43)
 have HB0 := Lib.hid B0
 go_enter Tryz.func49, Tryz.ntmps49
 go_wp2_with (first
   | (go_at_call 67; (with_reducible refine (C1 _ HB0.out).mono ?_); rintro e w1 ⟨rfl, hb⟩; have HB1 := Lib.hid (HB0.out.trans (hb.mono HB0.out.size)); rw [← hb.cell (p := ⟨w.heap.size, 4, none⟩) (by simp)] at x4; clear hb)
   | (go_at_call 68; (with_reducible refine (C2 _ HB1.out).mono ?_); rintro e w2 ⟨rfl, hb⟩; have HB2 := Lib.hid (HB1.out.trans (hb.mono HB1.out.size)); clear hb))
 go_ret
 exact ⟨rfl, HB2.out⟩
set_option maxRecDepth 100000 in
set_option maxHeartbeats 4000000 in
theorem idx0 (a : Option Addr) (c : Nat) (f : Value) (w : World) : Calls Tryz.prog 180 #[.slice a 0 c, f] w fun e w' => e = .returned (.int .i64 (-1)) ∧ Below w.heap.size w w' := by
 go_enter Tryz.func180, Tryz.ntmps180
 go_wp2
 go_loop [8] (fun i => i = .int .i64 0) (fun _ => 0)
 case atStart => rfl
 case round =>
   obtain rfl := hrel
   go_wp2
   go_ret
   exact ⟨rfl, Below.refl _ _⟩
set_option maxRecDepth 100000 in
set_option maxHeartbeats 4000000 in
theorem cont0 (a : Option Addr) (c : Nat) (f : Value) (w : World) : Calls Tryz.prog 146 #[.slice a 0 c, f] w fun e w' => e = .returned (.bool false) ∧ Below w.heap.size w w' := by
 have C := idx0 a c f w
 go_enter Tryz.func146, Tryz.ntmps146
 go_wp2_with (go_at_call 180; refine C.mono ?_; rintro e w1 ⟨rfl, hb⟩; have HB := Lib.hid hb; clear hb)
 go_ret
 exact ⟨rfl, HB.out⟩
set_option maxRecDepth 100000 in
set_option maxHeartbeats 4000000 in
theorem rightRep1 (a : Option Addr) (c : Nat) (w : World) : Calls Tryz.prog 96 #[.slice a 0 c] w fun e w' => e = .returned (.bool true) ∧ Below w.heap.size w w' := by
 have C := fun f => cont0 a c f w
 go_enter Tryz.func96, Tryz.ntmps96
 go_wp2_with (go_at_call 146; refine (C _).mono ?_; rintro e w1 ⟨rfl, hb⟩; have HB := Lib.hid hb; clear hb)
 go_ret
 exact ⟨rfl, HB.out⟩
set_option maxRecDepth 100000 in
set_option maxHeartbeats 4000000 in
theorem kchk0 (a : Option Addr) (c : Nat) (f g : Value) (w : World) : Calls Tryz.prog 100 #[.slice a 0 c, f, g] w fun e w' => e = .returned (.int .i64 0) ∧ Below w.heap.size w w' := by
 go_enter Tryz.func100, Tryz.ntmps100
 go_wp2
 go_loop [14] (fun i => i = .int .i64 0) (fun _ => 0)
 case atStart => rfl
 case round =>
   obtain rfl := hrel
   go_wp2
   go_ret
   exact ⟨rfl, Below.refl _ _⟩
set_option maxRecDepth 100000 in
set_option maxHeartbeats 4000000 in
theorem kchkF0 (a : Option Addr) (c : Nat) (f g : Value) (w : World) : Calls Tryz.prog 97 #[.slice a 0 c, f, g] w fun e w' => e = .returned (.int .i64 0) ∧ Below w.heap.size w w' := by
 go_enter Tryz.func97, Tryz.ntmps97
 go_wp2
 go_loop [14] (fun i => i = .int .i64 0) (fun _ => 0)
 case atStart => rfl
 case round =>
   obtain rfl := hrel
   go_wp2
   go_ret
   exact ⟨rfl, Below.refl _ _⟩
set_option maxRecDepth 100000 in
set_option maxHeartbeats 4000000 in
theorem rightLists1 (a3 a4 a5 a6 a7 a8 : Option Addr) (m3 m4 m5 m6 m7 m8 : Nat) (w : World) : Calls Tryz.prog 50 #[.agg #[.string ⟨#[97]⟩, .string ⟨#[49]⟩, .int .i64 7, .slice a3 0 m3, .slice a4 0 m4, .slice a5 0 m5, .slice a6 0 m6, .slice a7 0 m7, .slice a8 0 m8]] w fun e w' => e = .returned (.bool true) ∧ Below w.heap.size w w' := by
 obtain ⟨x0, x1, x2, x3, x4, x5, x6, x7, x8⟩ := boxV9 w (.string ⟨#[97]⟩) (.string ⟨#[49]⟩) (.int .i64 7) (.slice a3 0 m3) (.slice a4 0 m4) (.slice a5 0 m5) (.slice a6 0 m6) (.slice a7 0 m7) (.slice a8 0 m8) 43
 have B0 := (Below.refl w.heap.size w).alloc (Nat.le_refl _) (.cells #[.string ⟨#[97]⟩, .string ⟨#[49]⟩, .int .i64 7, .slice a3 0 m3, .slice a4 0 m4, .slice a5 0 m5, .slice a6 0 m6, .slice a7 0 m7, .slice a8 0 m8] 43)
 have B0 := Lib.hid B0
 have hlt : w.heap.size < (w.alloc (.cells #[.string ⟨#[97]⟩, .string ⟨#[49]⟩, .int .i64 7, .slice a3 0 m3, .slice a4 0 m4, .slice a5 0 m5, .slice a6 0 m6, .slice a7 0 m7, .slice a8 0 m8] 43)).heap.size := by simp
 have HB0 := Lib.hid (Below.refl (w.alloc (.cells #[.string ⟨#[97]⟩, .string ⟨#[49]⟩, .int .i64 7, .slice a3 0 m3, .slice a4 0 m4, .slice a5 0 m5, .slice a6 0 m6, .slice a7 0 m7, .slice a8 0 m8] 43)).heap.size (w.alloc (.cells #[.string ⟨#[97]⟩, .string ⟨#[49]⟩, .int .i64 7, .slice a3 0 m3, .slice a4 0 m4, .slice a5 0 m5, .slice a6 0 m6, .slice a7 0 m7, .slice a8 0 m8] 43)))
 have C1 := fun W => rightRep1 a5 m5 W
 have C2 := fun f g W => kchkF0 a6 m6 f g W
 have C3 := fun f g W => kchk0 a7 m7 f g W
 have C4 := fun f g W => kchk0 a8 m8 f g W
 go_enter Tryz.func50, Tryz.ntmps50
 go_wp2_with (first
   | (go_at_call 96; (with_reducible refine (C1 _).mono ?_); rintro e w1 ⟨rfl, hb⟩; have HB1 := Lib.hid (HB0.out.trans (hb.mono HB0.out.size)); have y1_6 := (HB1.out.cell (p := ⟨w.heap.size, 6, none⟩) hlt).trans x6; clear hb)
   | (go_at_call 97; (with_reducible refine (C2 _ _ _).mono ?_); rintro e w2 ⟨rfl, hb⟩; have HB2 := Lib.hid (HB1.out.trans (hb.mono HB1.out.size)); have y2_7 := (HB2.out.cell (p := ⟨w.heap.size, 7, none⟩) hlt).trans x7; clear hb)
   | (go_at_call 100; (with_reducible refine (C3 _ _ _).mono ?_); rintro e w3 ⟨rfl, hb⟩; have HB3 := Lib.hid (HB2.out.trans (hb.mono HB2.out.size)); have y3_8 := (HB3.out.cell (p := ⟨w.heap.size, 8, none⟩) hlt).trans x8; clear hb)
   | (go_at_call 100; (with_reducible refine (C4 _ _ _).mono ?_); rintro e w4 ⟨rfl, hb⟩; have HB4 := Lib.hid (HB3.out.trans (hb.mono HB3.out.size)); clear hb))
 go_ret
 exact ⟨rfl, B0.out.trans (HB4.out.mono B0.out.size)⟩
set_option maxRecDepth 100000 in
set_option maxHeartbeats 4000000 in
theorem right1 (a3 a4 a5 a6 a7 a8 : Option Addr) (m3 m4 m5 m6 m7 m8 : Nat) (w : World) (hL : LaidU w) : Calls Tryz.prog 16 #[.agg #[.string ⟨#[97]⟩, .string ⟨#[49]⟩, .int .i64 7, .slice a3 0 m3, .slice a4 0 m4, .slice a5 0 m5, .slice a6 0 m6, .slice a7 0 m7, .slice a8 0 m8]] w fun e w' => e = .returned (.bool true) ∧ Below w.heap.size w w' := by
 obtain ⟨x0, x1, x2, x3, x4, x5, x6, x7, x8⟩ := boxV9 w (.string ⟨#[97]⟩) (.string ⟨#[49]⟩) (.int .i64 7) (.slice a3 0 m3) (.slice a4 0 m4) (.slice a5 0 m5) (.slice a6 0 m6) (.slice a7 0 m7) (.slice a8 0 m8) 43
 have B0 := (Below.refl w.heap.size w).alloc (Nat.le_refl _) (.cells #[.string ⟨#[97]⟩, .string ⟨#[49]⟩, .int .i64 7, .slice a3 0 m3, .slice a4 0 m4, .slice a5 0 m5, .slice a6 0 m6, .slice a7 0 m7, .slice a8 0 m8] 43)
 have HL := Lib.hid (hL.on B0)
 have B0 := Lib.hid B0
 have hlt : w.heap.size < (w.alloc (.cells #[.string ⟨#[97]⟩, .string ⟨#[49]⟩, .int .i64 7, .slice a3 0 m3, .slice a4 0 m4, .slice a5 0 m5, .slice a6 0 m6, .slice a7 0 m7, .slice a8 0 m8] 43)).heap.size := by simp
 have HB0 := Lib.hid (Below.refl (w.alloc (.cells #[.string ⟨#[97]⟩, .string ⟨#[49]⟩, .int .i64 7, .slice a3 0 m3, .slice a4 0 m4, .slice a5 0 m5, .slice a6 0 m6, .slice a7 0 m7, .slice a8 0 m8] 43)).heap.size (w.alloc (.cells #[.string ⟨#[97]⟩, .string ⟨#[49]⟩, .int .i64 7, .slice a3 0 m3, .slice a4 0 m4, .slice a5 0 m5, .slice a6 0 m6, .slice a7 0 m7, .slice a8 0 m8] 43)))
 have C0 : ∀ W, Calls Tryz.prog 46 #[.string ⟨#[97]⟩] W fun e w' => e = .returned (.bool true) ∧ Below W.heap.size W w' := fun W => (name_any ⟨#[97]⟩ (by decide) W).mono fun e w' h => ⟨by rw [h.1, show nameB (ByteArray.mk #[97]).data.toList = true by decide +kernel], by rw [h.2]; exact Below.refl _ _⟩
 have C1 := fun W (hb : Below (w.alloc (.cells #[.string ⟨#[97]⟩, .string ⟨#[49]⟩, .int .i64 7, .slice a3 0 m3, .slice a4 0 m4, .slice a5 0 m5, .slice a6 0 m6, .slice a7 0 m7, .slice a8 0 m8] 43)).heap.size (w.alloc (.cells #[.string ⟨#[97]⟩, .string ⟨#[49]⟩, .int .i64 7, .slice a3 0 m3, .slice a4 0 m4, .slice a5 0 m5, .slice a6 0 m6, .slice a7 0 m7, .slice a8 0 m8] 43)) W) => rightVer1 W (HL.out.on hb).q.v
 have C2 := fun W (hb : Below (w.alloc (.cells #[.string ⟨#[97]⟩, .string ⟨#[49]⟩, .int .i64 7, .slice a3 0 m3, .slice a4 0 m4, .slice a5 0 m5, .slice a6 0 m6, .slice a7 0 m7, .slice a8 0 m8] 43)).heap.size (w.alloc (.cells #[.string ⟨#[97]⟩, .string ⟨#[49]⟩, .int .i64 7, .slice a3 0 m3, .slice a4 0 m4, .slice a5 0 m5, .slice a6 0 m6, .slice a7 0 m7, .slice a8 0 m8] 43)) W) => rightState1 a3 a4 a5 a6 a7 a8 m3 m4 m5 m6 m7 m8 W (HL.out.on hb)
 have C3 := fun W (hb : Below (w.alloc (.cells #[.string ⟨#[97]⟩, .string ⟨#[49]⟩, .int .i64 7, .slice a3 0 m3, .slice a4 0 m4, .slice a5 0 m5, .slice a6 0 m6, .slice a7 0 m7, .slice a8 0 m8] 43)).heap.size (w.alloc (.cells #[.string ⟨#[97]⟩, .string ⟨#[49]⟩, .int .i64 7, .slice a3 0 m3, .slice a4 0 m4, .slice a5 0 m5, .slice a6 0 m6, .slice a7 0 m7, .slice a8 0 m8] 43)) W) => rightRels1 a3 a4 a5 a6 a7 a8 m3 m4 m5 m6 m7 m8 W (HL.out.on hb)
 have C4 := fun W => rightLists1 a3 a4 a5 a6 a7 a8 m3 m4 m5 m6 m7 m8 W
 clear hL
 go_enter Tryz.func16, Tryz.ntmps16
 go_wp2_with (first
   | (go_at_call 46; (with_reducible refine (C0 _).mono ?_); rintro e w1 ⟨rfl, hb⟩; have HB1 := Lib.hid (HB0.out.trans (hb.mono HB0.out.size)); have y1_1 := (HB1.out.cell (p := ⟨w.heap.size, 1, none⟩) hlt).trans x1; clear hb)
   | (go_at_call 47; (with_reducible refine (C1 _ HB1.out).mono ?_); rintro e w2 ⟨rfl, hb⟩; have HB2 := Lib.hid (HB1.out.trans (hb.mono HB1.out.size)); have y2_0 := (HB2.out.cell (p := ⟨w.heap.size, 0, none⟩) hlt).trans x0; have y2_1 := (HB2.out.cell (p := ⟨w.heap.size, 1, none⟩) hlt).trans x1; have y2_2 := (HB2.out.cell (p := ⟨w.heap.size, 2, none⟩) hlt).trans x2; have y2_3 := (HB2.out.cell (p := ⟨w.heap.size, 3, none⟩) hlt).trans x3; have y2_4 := (HB2.out.cell (p := ⟨w.heap.size, 4, none⟩) hlt).trans x4; have y2_5 := (HB2.out.cell (p := ⟨w.heap.size, 5, none⟩) hlt).trans x5; have y2_6 := (HB2.out.cell (p := ⟨w.heap.size, 6, none⟩) hlt).trans x6; have y2_7 := (HB2.out.cell (p := ⟨w.heap.size, 7, none⟩) hlt).trans x7; have y2_8 := (HB2.out.cell (p := ⟨w.heap.size, 8, none⟩) hlt).trans x8; clear hb)
   | (go_at_call 48; (with_reducible refine (C2 _ HB2.out).mono ?_); rintro e w3 ⟨rfl, hb⟩; have HB3 := Lib.hid (HB2.out.trans (hb.mono HB2.out.size)); have y3_0 := (HB3.out.cell (p := ⟨w.heap.size, 0, none⟩) hlt).trans x0; have y3_1 := (HB3.out.cell (p := ⟨w.heap.size, 1, none⟩) hlt).trans x1; have y3_2 := (HB3.out.cell (p := ⟨w.heap.size, 2, none⟩) hlt).trans x2; have y3_3 := (HB3.out.cell (p := ⟨w.heap.size, 3, none⟩) hlt).trans x3; have y3_4 := (HB3.out.cell (p := ⟨w.heap.size, 4, none⟩) hlt).trans x4; have y3_5 := (HB3.out.cell (p := ⟨w.heap.size, 5, none⟩) hlt).trans x5; have y3_6 := (HB3.out.cell (p := ⟨w.heap.size, 6, none⟩) hlt).trans x6; have y3_7 := (HB3.out.cell (p := ⟨w.heap.size, 7, none⟩) hlt).trans x7; have y3_8 := (HB3.out.cell (p := ⟨w.heap.size, 8, none⟩) hlt).trans x8; clear hb)
   | (go_at_call 49; (with_reducible refine (C3 _ HB3.out).mono ?_); rintro e w4 ⟨rfl, hb⟩; have HB4 := Lib.hid (HB3.out.trans (hb.mono HB3.out.size)); have y4_0 := (HB4.out.cell (p := ⟨w.heap.size, 0, none⟩) hlt).trans x0; have y4_1 := (HB4.out.cell (p := ⟨w.heap.size, 1, none⟩) hlt).trans x1; have y4_2 := (HB4.out.cell (p := ⟨w.heap.size, 2, none⟩) hlt).trans x2; have y4_3 := (HB4.out.cell (p := ⟨w.heap.size, 3, none⟩) hlt).trans x3; have y4_4 := (HB4.out.cell (p := ⟨w.heap.size, 4, none⟩) hlt).trans x4; have y4_5 := (HB4.out.cell (p := ⟨w.heap.size, 5, none⟩) hlt).trans x5; have y4_6 := (HB4.out.cell (p := ⟨w.heap.size, 6, none⟩) hlt).trans x6; have y4_7 := (HB4.out.cell (p := ⟨w.heap.size, 7, none⟩) hlt).trans x7; have y4_8 := (HB4.out.cell (p := ⟨w.heap.size, 8, none⟩) hlt).trans x8; clear hb)
   | (go_at_call 50; (with_reducible refine (C4 _).mono ?_); rintro e w5 ⟨rfl, hb⟩; have HB5 := Lib.hid (HB4.out.trans (hb.mono HB4.out.size)); clear hb))
 go_ret
 exact ⟨rfl, B0.out.trans (HB5.out.mono B0.out.size)⟩
end Go.Proofs.YtnnagboeimeiiaaGreatDoor
namespace Go.Proofs.YtnnagboeimeiiaaGreatDoor
open Go.RowKit Go.Shelf
theorem heap_setU {W : World} {b i : Nat} {cs : Array Value} {t : TypeId} (u : Value) (h : W.heap[b]? = some (.cells cs t (0, 0))) : (W.setCell ⟨b, i, none⟩ u).heap[b]? = some (.cells (cs.setIfInBounds i u) t (0, 0)) := by
 obtain ⟨hlt, hk⟩ := Array.getElem?_eq_some_iff.1 h
 show (W.heap.modify b _)[b]? = _
 rw [Array.getElem?_eq_getElem (by rw [Array.size_modify]; exact hlt), Array.getElem_modify_self, hk]
 rfl
theorem lt_heapU {W : World} {k : Nat} {o : Obj} (h : W.heap[k]? = some o) : k < W.heap.size := (Array.getElem?_eq_some_iff.1 h).1
structure Fb (w W : World) (cs : Array Value) (st : List Fld) : Prop where
 hx : W.heap[w.heap.size]? = some (.cells cs 43 (0, 0))
 ho : ∃ v, W.heap[w.heap.size + 1]? = some (.cells #[v] 57 (0, 0)) ∧ OwnF W (w.heap.size + 2) v st
 b : Below w.heap.size w W
theorem OwnF.onU {w w' : World} {base : Nat} {v : Value} {st : List Fld} (h : OwnF w base v st) (hb : Below w.heap.size w w') : OwnF w' base v st := World.ownsRow.kept h (grown_below hb) (by cases v.ownBlock <;> simp)
theorem Fb.on {w W W' : World} {cs : Array Value} {st : List Fld} (h : Fb w W cs st) (hb : Below W.heap.size W W') : Fb w W' cs st := by
 obtain ⟨v, h1, h2⟩ := h.ho
 exact ⟨(hb.block _ (lt_heapU h.hx)).trans h.hx, ⟨v, (hb.block _ (lt_heapU h1)).trans h1, h2.onU hb⟩, h.b.trans (hb.mono h.b.size)⟩
theorem Fb.new (w : World) (cs : Array Value) : Fb w ((w.alloc (.cells cs 43)).alloc (.cells #[.slice none 0 0] 57)) cs [] := by
 have a1 := heap_alloc_new w (.cells cs 43)
 have b1 := (Below.refl w.heap.size w).alloc (Nat.le_refl _) (.cells cs 43)
 have a2 := heap_alloc_new (w.alloc (.cells cs 43)) (.cells #[.slice none 0 0] 57)
 have b2 := (Below.refl (w.alloc (.cells cs 43)).heap.size (w.alloc (.cells cs 43))).alloc (Nat.le_refl _) (.cells #[.slice none 0 0] 57)
 rw [World.size_alloc] at a2
 exact ⟨(b2.block _ (lt_heapU a1)).trans a1, ⟨_, a2, OwnF.nil _ _⟩, b1.trans (b2.mono b1.size)⟩
set_option maxRecDepth 100000 in
set_option maxHeartbeats 4000000 in
theorem add0 (b : Nat) (N : ByteArray) (W : World) : Calls Tryz.prog 66 #[.string N, .string ⟨#[]⟩, .pointer (some ⟨b, 0, none⟩)] W fun e w' => e = .returned (.tuple #[]) ∧ w' = W := by
 go_enter Tryz.func66, Tryz.ntmps66
 go_wp2
 go_end0
 exact ⟨rfl, rfl⟩
set_option maxRecDepth 100000 in
set_option maxHeartbeats 4000000 in
theorem add1 (N T : ByteArray) (hT : (T.toList == []) = false) {w W : World} {cs : Array Value} {st : List Fld} (hst : st.length ≤ 20) (h : Fb w W cs st) : Calls Tryz.prog 66 #[.string N, .string T, .pointer (some ⟨w.heap.size + 1, 0, none⟩)] W fun e w' => e = .returned (.tuple #[]) ∧ Fb w w' cs (st ++ [(N.data.toList, T.data.toList)]) := by
 obtain ⟨v, hv, ho⟩ := h.ho
 have HH := Lib.hid h
 obtain ⟨va, vc, rfl, -⟩ := ho.shape
 have HO := Lib.hid ho
 have HV := Lib.hid hv
 have HO3 : Hid (World.ownsRow W (w.heap.size + 2) 97 2 (.slice va st.length vc) st.length (fcells st)) := Lib.hid ho
 obtain ⟨n, hN⟩ : ∃ n, st.length = n := ⟨_, rfl⟩
 have HN := Lib.hid hN
 rw [hN] at hst
 have c0 := cell_heap (i := 0) hv rfl
 rw [hN] at c0
 have hsz := h.b.size
 have hlt := lt_heapU hv
 have HAPP : Hid (∀ v' w3, w3.ownsRow (w.heap.size + 2) 97 2 v' (n + 1) (fcells st ++ [.string N, .string T]) → OwnF w3 (w.heap.size + 2) v' (st ++ [(N.data.toList, T.data.toList)])) := Lib.hid (fun v' w3 h => OwnF.app (f := (N.data.toList, T.data.toList)) rfl rfl (by rw [hN]; exact h))
 rw [hN] at HO3
 generalize fcells st = T0 at *
 obtain ⟨i0, hi, hz0, hz1, hz2'⟩ := info_parts infoF
 clear hv ho hN h
 go_enter Tryz.func66, Tryz.ntmps66
 go_wp2_with (at_builtin; refine wpList_append_own _ rfl _ _ 57 rfl (w.heap.size + 2) 97 i0 _ 2 32 Tryz.underlying57 hi hz0 hz1 hz2' rfl (by decide) _ _ _ rfl (World.ownsRow.alloc HO3.out _) ⟨W.heap.size, 0, none⟩ 1 1 [.string N, .string T] rfl rfl (news2 _ _ _ rfl) (one2 _ _) (by unfold maxLen; omega) (by omega) (by simp; omega) ?_)
 intro v' w4 hown' hgrow _
 have hb4 : Below w.heap.size w w4 := (HH.out.b.alloc hsz _).grown hgrow (by simp; omega) (fun k hk => by have := (World.ownsRow.lt HO3.out k hk).1; omega)
 have hx4 : w4.heap[w.heap.size]? = some (.cells cs 43 (0, 0)) := by
   have e1 := ((Below.refl W.heap.size W).alloc (Nat.le_refl _) (.cells #[.string N, .string T] 97)).block _ (lt_heapU HH.out.hx)
   exact (hgrow.block _ (by simp; have := lt_heapU HH.out.hx; omega) (fun e => by have := (World.ownsRow.lt HO3.out _ e.symm).1; omega)).trans (e1.trans HH.out.hx)
 have hv4 : w4.heap[w.heap.size + 1]? = some (.cells #[.slice va n vc] 57 (0, 0)) := by
   have e1 := ((Below.refl W.heap.size W).alloc (Nat.le_refl _) (.cells #[.string N, .string T] 97)).block _ (lt_heapU HV.out)
   have := HV.out
   rw [HN.out] at this
   exact (hgrow.block _ (by simp; omega) (fun e => by have := (World.ownsRow.lt HO3.out _ e.symm).1; omega)).trans (e1.trans this)
 have HOA := Lib.hid (HAPP.out _ _ hown')
 obtain ⟨va', vc', hv', -⟩ := HOA.out.shape
 rw [List.length_append, HN.out] at hv'
 subst hv'
 have HB4 := Lib.hid hb4
 have HX4 := Lib.hid hx4
 have HV4 := Lib.hid hv4
 have q0 := cell_heap (i := 0) hv4 rfl
 have f0 := frozen_of_row _ _ 0 _ _ hv4
 clear hown' hgrow hb4 hx4 hv4 HO3 HAPP HO HV HH c0
 go_wp2
 go_end0
 refine ⟨rfl, (Below.heap_setCell _ _ _ _ (by simp)).trans HX4.out, ⟨_, by have := heap_setU (i := 0) (.slice va' (n + [(N.data.toList, T.data.toList)].length) vc') HV4.out; simpa using this, ?_⟩, HB4.out.setCell (p := ⟨w.heap.size + 1, 0, none⟩) (by simp) _⟩
 have h1 : w4.ownsRow (w.heap.size + 2) 97 2 (.slice va' (n + [(N.data.toList, T.data.toList)].length) vc') (st ++ [(N.data.toList, T.data.toList)]).length (fcells (st ++ [(N.data.toList, T.data.toList)])) := HOA.out
 refine ⟨h1.1, ?_⟩
 rcases h1.2 with hn | ⟨g, cap, cur, hv, hb', hg, rest⟩
 · exact .inl hn
 · exact .inr ⟨g, cap, cur, hv, hb', (Below.heap_setCell _ _ _ _ (by simp; omega)).trans hg, rest⟩
set_option maxRecDepth 100000 in
set_option maxHeartbeats 4000000 in
theorem all0 (a : Option Addr) (c : Nat) (w : World) (hL : LaidU w) : Calls Tryz.prog 67 #[.slice a 0 c] w fun e w' => e = .returned (.tuple #[.string ⟨#[]⟩, .int .i64 0]) ∧ Below w.heap.size w w' := by
 have h : HoldGs w (.slice a 0 c) ([] : List Gv) := ⟨⟨a, c, 0, 0, rfl, Nat.zero_le _, fun h => absurd h (by simp), fun j l hj => by simp at hj⟩, fun x hx => by simp at hx⟩
 have C := all_any (.slice a 0 c) [] (by simp) (fun x hx => by simp at hx) w h hL.q.v
 unfold TwoP at C
 rw [show allE (fsts ([] : List Gv)) = ([], 0) by decide +kernel] at C
 exact C
set_option maxRecDepth 100000 in
set_option maxHeartbeats 4000000 in
theorem list0 (a : Option Addr) (c : Nat) (w : World) (hL : LaidU w) : Calls Tryz.prog 68 #[.slice a 0 c] w fun e w' => e = .returned (.tuple #[.string ⟨#[]⟩, .int .i64 0]) ∧ Below w.heap.size w w' := by
 have h : HoldQ w (.slice a 0 c) [] := ⟨a, c, 0, 0, rfl, Nat.zero_le _, fun h => absurd h (by simp), fun j l hj => by simp at hj⟩
 have C := listQ_any (.slice a 0 c) [] (by simp) (fun x hx => by simp at hx) w h hL.q.v
 unfold TwoP at C
 rw [show listE [] = ([], 0) by decide +kernel] at C
 exact C
theorem join0 (a : Option Addr) (c : Nat) (s : ByteArray) (w : World) : Calls Tryz.prog 70 #[.slice a 0 c, .string s] w fun e w' => e = .returned (.string ⟨#[]⟩) ∧ w' = w :=
 (Tryz.strings_Join_none a c s w).mono fun _ _ h => ⟨h.1, h.2⟩
set_option maxRecDepth 100000 in
set_option maxHeartbeats 4000000 in
theorem confsText0 (a : Option Addr) (c : Nat) (w : World) : Calls Tryz.prog 71 #[.slice a 0 c] w fun e w' => e = .returned (.string ⟨#[]⟩) ∧ Below w.heap.size w w' := by
 have HD0 := Lib.hid (bld_new w.heap.size w (Nat.le_refl _))
 have B0 := Lib.hid ((Below.refl w.heap.size w).alloc (Nat.le_refl _) (.cells #[.pointer none, .slice none 0 0] tB))
 go_enter Tryz.func71, Tryz.ntmps71
 go_wp2
 generalize w.alloc (.cells #[.pointer none, .slice none 0 0] tB) = W2 at *
 generalize hb0 : w.heap.size = b0 at *
 have hsz0 : b0 ≤ W2.heap.size := by rw [← hb0]; exact B0.out.size
 go_loop [8] (fun i => i = .int .i64 0) (fun _ => 0)
 case atStart => rfl
 case round =>
   obtain rfl := hrel
   go_wp2_with (go_at_call 75; (with_reducible refine (bstr_any b0 b0 [] _ HD0.out hsz0).mono ?_); rintro e w1 ⟨rfl, hb⟩; have HB := Lib.hid (B0.out.trans hb); clear hb)
   go_ret
   exact ⟨rfl, by rw [hb0]; exact HB.out⟩
abbrev rowsU : List Fld := [([80, 97, 99, 107, 97, 103, 101], [97]), ([83, 116, 97, 116, 117, 115], [105, 110, 115, 116, 97, 108, 108, 101, 100]), ([86, 101, 114, 115, 105, 111, 110], [49])]
set_option maxRecDepth 100000 in
set_option maxHeartbeats 16000000 in
theorem fields1 (a3 a4 a5 a6 a7 a8 : Option Addr) (m3 m4 m5 m6 m7 m8 : Nat) (w : World) (hL : LaidU w) : Calls Tryz.prog 28 #[.agg #[.string ⟨#[97]⟩, .string ⟨#[49]⟩, .int .i64 7, .slice a3 0 m3, .slice a4 0 m4, .slice a5 0 m5, .slice a6 0 m6, .slice a7 0 m7, .slice a8 0 m8]] w fun e w' => ∃ a c, e = .returned (.slice a 3 c) ∧ HoldR 2 w' (.slice a 3 c) (rowsU.map rowF) ∧ Below w.heap.size w w' := by
 have HL := Lib.hid hL
 have C1 := fun W (hb : Below w.heap.size w W) => all0 a3 m3 W (HL.out.on hb)
 have C2 := fun W (hb : Below w.heap.size w W) => list0 a4 m4 W (HL.out.on hb)
 have C3 := fun W (hb : Below w.heap.size w W) => word_any 7 W (HL.out.on hb)
 have hw7 : bsT (wordU 7) = ⟨#[105, 110, 115, 116, 97, 108, 108, 101, 100]⟩ := rfl
 rw [hw7] at C3
 have J5 := fun s W => join0 a5 m5 s W
 have J7 := fun s W => join0 a7 m7 s W
 have J8 := fun s W => join0 a8 m8 s W
 have C6 := fun W => confsText0 a6 m6 W
 have F0 := Fb.new w #[.string ⟨#[97]⟩, .string ⟨#[49]⟩, .int .i64 7, .slice a3 0 m3, .slice a4 0 m4, .slice a5 0 m5, .slice a6 0 m6, .slice a7 0 m7, .slice a8 0 m8]
 have p3 := cell_heap (i := 3) F0.hx rfl
 have HF0 := Lib.hid F0
 clear F0 hw7 hL
 have t1 : ((⟨#[97]⟩ : ByteArray).toList == []) = false := by decide +kernel
 have t2 : ((⟨#[105, 110, 115, 116, 97, 108, 108, 101, 100]⟩ : ByteArray).toList == []) = false := by decide +kernel
 have t3 : ((⟨#[49]⟩ : ByteArray).toList == []) = false := by decide +kernel
 go_enter Tryz.func28, Tryz.ntmps28
 go_wp2_with (first
   | (go_at_call 67; (with_reducible refine (C1 _ HF0.out.b).mono ?_); rintro e w1 ⟨rfl, hb⟩; have HF1 := Lib.hid (HF0.out.on hb); have p4_HF1 := cell_heap (i := 4) HF1.out.hx rfl; clear hb)
   | (go_at_call 68; (with_reducible refine (C2 _ HF1.out.b).mono ?_); rintro e w2 ⟨rfl, hb⟩; have HF2 := Lib.hid (HF1.out.on hb); have p0_HF2 := cell_heap (i := 0) HF2.out.hx rfl; clear hb)
   | (go_at_call 66; (with_reducible refine (add1 ⟨#[80, 97, 99, 107, 97, 103, 101]⟩ ⟨#[97]⟩ t1 (by simp) HF2.out).mono ?_); rintro e w3 ⟨rfl, hf⟩; have HF3 := Lib.hid hf; have p2_HF3 := cell_heap (i := 2) HF3.out.hx rfl; clear hf)
   | (go_at_call 69; (with_reducible refine (C3 _ HF3.out.b).mono ?_); rintro e w4 ⟨rfl, hb⟩; have HF4 := Lib.hid (HF3.out.on hb); clear hb)
   | (go_at_call 66; (with_reducible refine (add1 ⟨#[83, 116, 97, 116, 117, 115]⟩ ⟨#[105, 110, 115, 116, 97, 108, 108, 101, 100]⟩ t2 (by simp) HF4.out).mono ?_); rintro e w5 ⟨rfl, hf⟩; have HF5 := Lib.hid hf; have p1_HF5 := cell_heap (i := 1) HF5.out.hx rfl; clear hf)
   | (go_at_call 66; (with_reducible refine (add1 ⟨#[86, 101, 114, 115, 105, 111, 110]⟩ ⟨#[49]⟩ t3 (by simp) HF5.out).mono ?_); rintro e w6 ⟨rfl, hf⟩; have HF6 := Lib.hid hf; have p5_HF6 := cell_heap (i := 5) HF6.out.hx rfl; have p6_HF6 := cell_heap (i := 6) HF6.out.hx rfl; clear hf)
   | (go_at_call 66; (with_reducible refine (add0 _ _ _).mono ?_); rintro e w7 ⟨rfl, rfl⟩)
   | (go_at_call 70; (first | (with_reducible refine (J5 _ _).mono ?_) | (with_reducible refine (J7 _ _).mono ?_) | (with_reducible refine (J8 _ _).mono ?_)); rintro e w8 ⟨rfl, rfl⟩)
   | (go_at_call 71; (with_reducible refine (C6 _).mono ?_); rintro e w9 ⟨rfl, hb⟩; have HF9 := Lib.hid (HF6.out.on hb); have p7_HF9 := cell_heap (i := 7) HF9.out.hx rfl; have p8_HF9 := cell_heap (i := 8) HF9.out.hx rfl; obtain ⟨fv, hfv, hfo⟩ := HF9.out.ho; have HFO := Lib.hid hfo; have pv := cell_heap (i := 0) hfv rfl; clear hb hfv hfo))
 go_ret
 obtain ⟨a, c, e, -⟩ := HFO.out.shape
 subst e
 exact ⟨a, c, rfl, HFO.out.holds, HF9.out.b⟩
end Go.Proofs.YtnnagboeimeiiaaGreatDoor
namespace Go.Proofs.YtnnagboeimeiiaaGreatDoor
open Go.RowKit Go.Shelf
abbrev exU (a3 a4 a5 a6 a7 a8 : Option Addr) (m3 m4 m5 m6 m7 m8 : Nat) : Uv := ⟨[97], [49], 7, [], [], [], [], [], [], .slice a3 0 m3, .slice a4 0 m4, .slice a5 0 m5, .slice a6 0 m6, .slice a7 0 m7, .slice a8 0 m8⟩
abbrev textU1 : ByteArray := ⟨#[80, 97, 99, 107, 97, 103, 101, 58, 32, 97, 10, 83, 116, 97, 116, 117, 115, 58, 32, 105, 110, 115, 116, 97, 108, 108, 101, 100, 10, 86, 101, 114, 115, 105, 111, 110, 58, 32, 49, 10]⟩
theorem rr_one {w : World} {base : Nat} {v u : Value} {rs : List (List Bs)} (h : w.ownsRow base 57 1 v 1 [u]) (hu : HoldR 2 w u rs) : ∃ a c, v = .slice a 1 c ∧ HoldRR 2 w (.slice a 1 c) [rs] := by
 rcases h.2 with ⟨rfl, h0⟩ | ⟨g, cap, cur, rfl, hb, hg, hn, hm, hs, ht⟩
 · cases h0
 · refine ⟨_, _, rfl, some ⟨g, 0, none⟩, cap, g, 0, rfl, hn, fun _ => ⟨rfl, (Array.getElem?_eq_some_iff.1 hg).1⟩, fun j r hj => ?_⟩
   match j, hj with
   | 0, hj =>
     simp at hj; subst hj
     refine ⟨u, ?_, hu⟩
     rw [Nat.zero_add, cellRow w g 0 cur 57 (0, 0) hg, ← Array.getElem?_toList]
     have : (cur.toList.take (1 * 1))[0]? = some u := by rw [ht]; rfl
     rw [List.getElem?_take, if_pos (by omega)] at this
     exact this
   | j + 1, hj => simp at hj
set_option maxRecDepth 100000 in
set_option maxHeartbeats 4000000 in
theorem check1 (a3 a4 a5 a6 a7 a8 : Option Addr) (m3 m4 m5 m6 m7 m8 : Nat) (v : Value) (w : World) (hL : LaidU w) (h : HoldU w v [exU a3 a4 a5 a6 a7 a8 m3 m4 m5 m6 m7 m8]) : Calls Tryz.prog 11 #[v] w fun e w' => e = .returned (.int .i64 0) ∧ Below w.heap.size w w' := by
 have K := kcheckU_any 16 #[] (enters_of Tryz.func16 (by kernel_rfl) rfl) (fun _ => true) v [exU a3 a4 a5 a6 a7 a8 m3 m4 m5 m6 m7 m8] (by simp) w h (fun x hx W hb => by
   simp at hx
   subst hx
   exact right1 a3 a4 a5 a6 a7 a8 m3 m4 m5 m6 m7 m8 W (hL.on hb))
 rw [kchkK_ok (by simp) (fun i x hx => ⟨rfl, fun y hi hy => by
   have h1 := (List.getElem?_eq_some_iff.1 hx).1
   simp at h1
   omega⟩)] at K
 unfold keyFU at K
 clear hL
 obtain ⟨⟨a, c, b, o, e, hc, ha, hcell⟩, -⟩ := h
 have e' : v = .slice a 1 c := e
 clear e
 subst e'
 clear hc ha hcell
 go_enter Tryz.func11, Tryz.ntmps11
 go_wp2_with (go_at_call 35; (with_reducible refine K.mono ?_); rintro e w1 ⟨rfl, hb⟩; have HB := Lib.hid hb; clear hb)
 go_ret
 exact ⟨rfl, HB.out⟩
set_option maxRecDepth 100000 in
set_option maxHeartbeats 16000000 in
theorem print1 (a3 a4 a5 a6 a7 a8 : Option Addr) (m3 m4 m5 m6 m7 m8 : Nat) (v : Value) (w : World) (hL : LaidU w) (h : HoldU w v [exU a3 a4 a5 a6 a7 a8 m3 m4 m5 m6 m7 m8]) : Calls Tryz.prog 9 #[v] w fun e w' => e = .returned (.tuple #[.string textU1, .int .i64 0]) ∧ Below w.heap.size w w' := by
 have CK := check1 a3 a4 a5 a6 a7 a8 m3 m4 m5 m6 m7 m8 v w hL h
 have FI := fun W (hb : Below w.heap.size w W) => fields1 a3 a4 a5 a6 a7 a8 m3 m4 m5 m6 m7 m8 W (hL.on hb)
 have PR : ∀ (u : Value) W, HoldRR 2 W u [rowsU.map rowF] → Calls Tryz.prog 29 #[u] W fun e w' => e = .returned (.tuple #[.string textU1, .int .i64 0]) ∧ Below W.heap.size W w' := fun u W hu => by
   have C := print_any u [rowsU] ⟨by simp, fun st hst => by simp at hst; subst hst; simp, fun st hst f hf => by simp at hst; subst hst; simp at hf; rcases hf with rfl | rfl | rfl <;> simp, by decide +kernel⟩ W hu
   unfold PrintPost at C
   rw [show printE [rowsU] = (textU1.data.toList, 0) by decide +kernel] at C
   exact C
 obtain ⟨va, vc, b, o, e, hc, ha, hcell⟩ := h.parts
 have e' : v = .slice va 1 vc := e
 have hc : 1 ≤ vc := hc
 clear e
 subst e'
 obtain ⟨rfl, hbw⟩ := ha (by simp)
 obtain ⟨x0, x1, x2, x3, x4, x5, x6, x7, x8⟩ := hcell 0 _ rfl
 simp only [Nat.zero_mul, Nat.add_zero] at x0 x1 x2 x3 x4 x5 x6 x7 x8
 obtain ⟨i0, hi, hz0, hz1, hz2'⟩ := info_parts infoSF
 have HC := Lib.hid hc
 have HX := Lib.hid (And.intro x0 (And.intro x1 (And.intro x2 (And.intro x3 (And.intro x4 (And.intro x5 (And.intro x6 (And.intro x7 x8))))))))
 clear hL h hc ha hcell x0 x1 x2 x3 x4 x5 x6 x7 x8
 go_enter Tryz.func9, Tryz.ntmps9
 go_wp2_with (go_at_call 11; (with_reducible refine CK.mono ?_); rintro e w1 ⟨rfl, hb⟩; have HB1 := Lib.hid hb; clear hb)
 clear CK
 go_loopw [5, 17] (fun u i wr => ∃ k : Nat, k ≤ 1 ∧ i = .int .i64 k ∧ Hid (Below w.heap.size w wr) ∧ Hid ((k = 0 ∧ u = .slice none 0 0) ∨ (k = 1 ∧ ∃ a c, u = .slice a 1 c ∧ HoldRR 2 wr (.slice a 1 c) [rowsU.map rowF]))) (fun _ i _ => 1 - (intOf i).toNat)
 case atStart => exact ⟨0, by omega, rfl, HB1, Lib.hid (.inl ⟨rfl, rfl⟩)⟩
 case round =>
   obtain ⟨k, hk, rfl, HB, HU⟩ := hrel
   rcases HU.out with ⟨rfl, rfl⟩ | ⟨rfl, ua, uc, rfl, hrr⟩
   · obtain ⟨x0, x1, x2, x3, x4, x5, x6, x7, x8⟩ := HX.out
     rw [← HB.out.cell (p := ⟨b, o, none⟩) hbw] at x0
     rw [← HB.out.cell (p := ⟨b, o + 1, none⟩) hbw] at x1
     rw [← HB.out.cell (p := ⟨b, o + 2, none⟩) hbw] at x2
     rw [← HB.out.cell (p := ⟨b, o + 3, none⟩) hbw] at x3
     rw [← HB.out.cell (p := ⟨b, o + 4, none⟩) hbw] at x4
     rw [← HB.out.cell (p := ⟨b, o + 5, none⟩) hbw] at x5
     rw [← HB.out.cell (p := ⟨b, o + 6, none⟩) hbw] at x6
     rw [← HB.out.cell (p := ⟨b, o + 7, none⟩) hbw] at x7
     rw [← HB.out.cell (p := ⟨b, o + 8, none⟩) hbw] at x8
     have hsz := HB.out.size
     have B2 := HB.out.alloc hsz (.cells #[.string ⟨#[97]⟩, .string ⟨#[49]⟩, .int .i64 7, .slice a3 0 m3, .slice a4 0 m4, .slice a5 0 m5, .slice a6 0 m6, .slice a7 0 m7, .slice a8 0 m8] 43)
     obtain ⟨y0, y1, y2, y3, y4, y5, y6, y7, y8⟩ := boxV9 wr (.string ⟨#[97]⟩) (.string ⟨#[49]⟩) (.int .i64 7) (.slice a3 0 m3) (.slice a4 0 m4) (.slice a5 0 m5) (.slice a6 0 m6) (.slice a7 0 m7) (.slice a8 0 m8) 43
     have HB2 := Lib.hid B2
     have FJ := FI _ HB2.out
     clear B2 HU
     go_wp2_with (first
       | (go_at_call 28; (with_reducible refine FJ.mono ?_); rintro e w3 ⟨fa, fc, rfl, hr, hb⟩; have HR3 := Lib.hid hr; have HB3 := Lib.hid (HB2.out.trans (hb.mono HB2.out.size)); clear hr hb)
       | (at_builtin; refine wpList_append_own _ rfl _ _ 56 rfl w3.heap.size 57 i0 (.slice none 0 0) 1 24 Tryz.underlying56 hi hz0 hz1 hz2' rfl (by decide) _ 0 [] rfl (World.ownsRow_nil _ _ _ _) ⟨w3.heap.size, 0, none⟩ 1 1 [.slice fa 3 fc] rfl rfl (news1 _ _ rfl) (one1 _ _ _) (by unfold maxLen; omega) (by omega) (by simp) ?_))
     intro v' w4 hown' hgrow _
     have hb4 : Below w3.heap.size w3 w4 := ((Below.refl w3.heap.size w3).alloc (Nat.le_refl _) _).grown hgrow (by simp) (fun k hk => by simp [Value.ownBlock] at hk)
     obtain ⟨ua, uc, hv', hrr⟩ := rr_one hown' (HR3.out.on hb4)
     subst hv'
     have HB4 : Hid (Below w.heap.size w w4) := Lib.hid (HB3.out.trans (hb4.mono HB3.out.size))
     have HRR := Lib.hid hrr
     clear hown' hgrow hb4 hrr
     go_wp2
     go_roundw
     case rel => exact ⟨1, by omega, rfl, HB4, Lib.hid (.inr ⟨rfl, ua, uc, rfl, HRR.out⟩)⟩
     case measure => simp [intOf]
   · have P1 := PR _ _ hrr
     clear PR hrr HU
     go_wp2_with (go_at_call 29; (with_reducible refine P1.mono ?_); rintro e w3 ⟨rfl, hb⟩; have HB3 := Lib.hid (HB.out.trans (hb.mono HB.out.size)); clear hb)
     go_ret2
     exact ⟨rfl, HB3.out⟩
end Go.Proofs.YtnnagboeimeiiaaGreatDoor
