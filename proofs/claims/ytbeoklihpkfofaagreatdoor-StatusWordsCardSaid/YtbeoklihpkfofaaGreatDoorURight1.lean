/-
  The program's Right of a record that has a name, a version and a state, without lists: true; nothing old turns. Condition: LaidU.
-/
import Derived.Test.YtbeoklihpkfofaaGreatDoorUOpen
import Derived.Test.YtbeoklihpkfofaaGreatDoorUKeyF
import Derived.Test.YtbeoklihpkfofaaGreatDoorQAll
import Derived.Test.YtbeoklihpkfofaaGreatDoorQPRight
namespace Go.Proofs.YtbeoklihpkfofaaGreatDoor
open Go.RowKit Go.Shelf
set_option maxRecDepth 100000 in
set_option maxHeartbeats 4000000 in
theorem settled_any (X0 X1 : ByteArray) (z : Int) (a3 a4 a5 a6 a7 a8 : Option Addr) (n3 n4 n5 n6 n7 n8 m3 m4 m5 m6 m7 m8 : Nat) (w : World) : Calls Tryz.prog 18 #[.agg #[.string X0, .string X1, .int .i64 z, .slice a3 n3 m3, .slice a4 n4 m4, .slice a5 n5 m5, .slice a6 n6 m6, .slice a7 n7 m7, .slice a8 n8 m8]] w fun e w' => e = .returned (.int .i64 (if 0 < n8 then 5 else if 0 < n7 then 6 else 7)) ∧ Below w.heap.size w w' := by
  obtain ⟨x0, x1, x2, x3, x4, x5, x6, x7, x8⟩ := boxV9 w (.string X0) (.string X1) (.int .i64 z) (.slice a3 n3 m3) (.slice a4 n4 m4) (.slice a5 n5 m5) (.slice a6 n6 m6) (.slice a7 n7 m7) (.slice a8 n8 m8) 32
  have B0 := (Below.refl w.heap.size w).alloc (Nat.le_refl _) (.cells #[.string X0, .string X1, .int .i64 z, .slice a3 n3 m3, .slice a4 n4 m4, .slice a5 n5 m5, .slice a6 n6 m6, .slice a7 n7 m7, .slice a8 n8 m8] 32)
  by_cases h8 : 0 < n8
  · rw [if_pos h8]
    go_enter Tryz.func18, Tryz.ntmps18
    go_wp2
    go_ret
    exact ⟨rfl, B0⟩
  · rw [if_neg h8]
    by_cases h7 : 0 < n7
    · rw [if_pos h7]
      go_enter Tryz.func18, Tryz.ntmps18
      go_wp2
      go_ret
      exact ⟨rfl, B0⟩
    · rw [if_neg h7]
      go_enter Tryz.func18, Tryz.ntmps18
      go_wp2
      go_ret
      exact ⟨rfl, B0⟩
set_option maxRecDepth 100000 in
set_option maxHeartbeats 4000000 in
theorem rightVer1 (w : World) (h : LaidV w) : Calls Tryz.prog 39 #[.string ⟨#[49]⟩] w fun e w' => e = .returned (.bool true) ∧ Below w.heap.size w w' := by
  have P := parse_any ⟨#[49]⟩ (by decide) w h
  unfold ParsePost at P
  have HE : parseV (ByteArray.mk #[49]).data.toList = .tuple #[.agg #[.int .i64 0, .string ⟨#[49]⟩, .string ⟨#[48]⟩], .int .i64 0] := by
    have hv : verOf [49] = some (0, [49], [48]) := by decide +kernel
    exact parseV_some (l := [49]) (by decide) hv
  rw [HE] at P
  clear HE h
  go_enter Tryz.func39, Tryz.ntmps39
  go_wp2_with (go_at_call 75; (with_reducible refine P.mono ?_); rintro e w1 ⟨rfl, hb⟩; have HB := Lib.hid hb; clear hb)
  go_ret
  exact ⟨rfl, HB.out.alloc HB.out.size _⟩
set_option maxRecDepth 100000 in
set_option maxHeartbeats 4000000 in
theorem rightState1 (a3 a4 a5 a6 a7 a8 : Option Addr) (m3 m4 m5 m6 m7 m8 : Nat) (w : World) (hL : LaidU w) : Calls Tryz.prog 40 #[.agg #[.string ⟨#[97]⟩, .string ⟨#[49]⟩, .int .i64 7, .slice a3 0 m3, .slice a4 0 m4, .slice a5 0 m5, .slice a6 0 m6, .slice a7 0 m7, .slice a8 0 m8]] w fun e w' => e = .returned (.bool true) ∧ Below w.heap.size w w' := by
  obtain ⟨x0, x1, x2, x3, x4, x5, x6, x7, x8⟩ := boxV9 w (.string ⟨#[97]⟩) (.string ⟨#[49]⟩) (.int .i64 7) (.slice a3 0 m3) (.slice a4 0 m4) (.slice a5 0 m5) (.slice a6 0 m6) (.slice a7 0 m7) (.slice a8 0 m8) 32
  have B0 := (Below.refl w.heap.size w).alloc (Nat.le_refl _) (.cells #[.string ⟨#[97]⟩, .string ⟨#[49]⟩, .int .i64 7, .slice a3 0 m3, .slice a4 0 m4, .slice a5 0 m5, .slice a6 0 m6, .slice a7 0 m7, .slice a8 0 m8] 32)
  have HL := Lib.hid (hL.on B0)
  have B0 := Lib.hid B0
  have hlt : w.heap.size < (w.alloc (.cells #[.string ⟨#[97]⟩, .string ⟨#[49]⟩, .int .i64 7, .slice a3 0 m3, .slice a4 0 m4, .slice a5 0 m5, .slice a6 0 m6, .slice a7 0 m7, .slice a8 0 m8] 32)).heap.size := by simp
  have HB0 := Lib.hid (Below.refl (w.alloc (.cells #[.string ⟨#[97]⟩, .string ⟨#[49]⟩, .int .i64 7, .slice a3 0 m3, .slice a4 0 m4, .slice a5 0 m5, .slice a6 0 m6, .slice a7 0 m7, .slice a8 0 m8] 32)).heap.size (w.alloc (.cells #[.string ⟨#[97]⟩, .string ⟨#[49]⟩, .int .i64 7, .slice a3 0 m3, .slice a4 0 m4, .slice a5 0 m5, .slice a6 0 m6, .slice a7 0 m7, .slice a8 0 m8] 32)))
  have C1 := fun W (hb : Below (w.alloc (.cells #[.string ⟨#[97]⟩, .string ⟨#[49]⟩, .int .i64 7, .slice a3 0 m3, .slice a4 0 m4, .slice a5 0 m5, .slice a6 0 m6, .slice a7 0 m7, .slice a8 0 m8] 32)).heap.size (w.alloc (.cells #[.string ⟨#[97]⟩, .string ⟨#[49]⟩, .int .i64 7, .slice a3 0 m3, .slice a4 0 m4, .slice a5 0 m5, .slice a6 0 m6, .slice a7 0 m7, .slice a8 0 m8] 32)) W) => word_any 7 W (HL.out.on hb)
  have hw7 : bsT (wordU 7) = ⟨#[105, 110, 115, 116, 97, 108, 108, 101, 100]⟩ := rfl
  rw [hw7] at C1
  have C2 := fun W => settled_any ⟨#[97]⟩ ⟨#[49]⟩ 7 a3 a4 a5 a6 a7 a8 0 0 0 0 0 0 m3 m4 m5 m6 m7 m8 W
  simp only [Nat.lt_irrefl, if_false] at C2
  clear hw7
  clear hL
  go_enter Tryz.func40, Tryz.ntmps40
  go_wp2_with (first
    | (go_at_call 9; (with_reducible refine (C1 _ HB0.out).mono ?_); rintro e w1 ⟨rfl, hb⟩; have HB1 := Lib.hid (HB0.out.trans (hb.mono HB0.out.size)); have y1_0 := (HB1.out.cell (p := ⟨w.heap.size, 0, none⟩) hlt).trans x0; have y1_1 := (HB1.out.cell (p := ⟨w.heap.size, 1, none⟩) hlt).trans x1; have y1_2 := (HB1.out.cell (p := ⟨w.heap.size, 2, none⟩) hlt).trans x2; have y1_3 := (HB1.out.cell (p := ⟨w.heap.size, 3, none⟩) hlt).trans x3; have y1_4 := (HB1.out.cell (p := ⟨w.heap.size, 4, none⟩) hlt).trans x4; have y1_5 := (HB1.out.cell (p := ⟨w.heap.size, 5, none⟩) hlt).trans x5; have y1_6 := (HB1.out.cell (p := ⟨w.heap.size, 6, none⟩) hlt).trans x6; have y1_7 := (HB1.out.cell (p := ⟨w.heap.size, 7, none⟩) hlt).trans x7; have y1_8 := (HB1.out.cell (p := ⟨w.heap.size, 8, none⟩) hlt).trans x8; clear hb)
    | (go_at_call 18; (with_reducible refine (C2 _).mono ?_); rintro e w2 ⟨rfl, hb⟩; have HB2 := Lib.hid (HB1.out.trans (hb.mono HB1.out.size)); clear hb))
  go_ret
  exact ⟨rfl, B0.out.trans (HB2.out.mono B0.out.size)⟩
set_option maxRecDepth 100000 in
set_option maxHeartbeats 4000000 in
theorem rightRels1 (a3 a4 a5 a6 a7 a8 : Option Addr) (m3 m4 m5 m6 m7 m8 : Nat) (w : World) (hL : LaidU w) : Calls Tryz.prog 41 #[.agg #[.string ⟨#[97]⟩, .string ⟨#[49]⟩, .int .i64 7, .slice a3 0 m3, .slice a4 0 m4, .slice a5 0 m5, .slice a6 0 m6, .slice a7 0 m7, .slice a8 0 m8]] w fun e w' => e = .returned (.bool true) ∧ Below w.heap.size w w' := by
  have HG : ∀ W, HoldGs W (.slice a3 0 m3) ([] : List Gv) := fun W => ⟨⟨a3, m3, 0, 0, rfl, Nat.zero_le _, fun h => absurd h (by simp), fun j l hj => by simp at hj⟩, fun x hx => by simp at hx⟩
  have HQ : ∀ W, HoldQ W (.slice a4 0 m4) [] := fun W => ⟨a4, m4, 0, 0, rfl, Nat.zero_le _, fun h => absurd h (by simp), fun j l hj => by simp at hj⟩
  have HL := Lib.hid hL
  have C1 := fun W (hb : Below w.heap.size w W) => all_any (.slice a3 0 m3) [] (by simp) (fun x hx => by simp at hx) W (HG W) (HL.out.on hb).q.v
  have C2 := fun W (hb : Below w.heap.size w W) => listQ_any (.slice a4 0 m4) [] (by simp) (fun x hx => by simp at hx) W (HQ W) (HL.out.on hb).q.v
  unfold TwoP at C1 C2
  have e1 : allE (fsts ([] : List Gv)) = ([], 0) := by decide +kernel
  have e2 : listE [] = ([], 0) := by decide +kernel
  rw [e1] at C1
  rw [e2] at C2
  clear HG HQ e1 e2 hL
  obtain ⟨x0, x1, x2, x3, x4, x5, x6, x7, x8⟩ := boxV9 w (.string ⟨#[97]⟩) (.string ⟨#[49]⟩) (.int .i64 7) (.slice a3 0 m3) (.slice a4 0 m4) (.slice a5 0 m5) (.slice a6 0 m6) (.slice a7 0 m7) (.slice a8 0 m8) 32
  have B0 := (Below.refl w.heap.size w).alloc (Nat.le_refl _) (.cells #[.string ⟨#[97]⟩, .string ⟨#[49]⟩, .int .i64 7, .slice a3 0 m3, .slice a4 0 m4, .slice a5 0 m5, .slice a6 0 m6, .slice a7 0 m7, .slice a8 0 m8] 32)
  have HB0 := Lib.hid B0
  go_enter Tryz.func41, Tryz.ntmps41
  go_wp2_with (first
    | (go_at_call 76; (with_reducible refine (C1 _ HB0.out).mono ?_); rintro e w1 ⟨rfl, hb⟩; have HB1 := Lib.hid (HB0.out.trans (hb.mono HB0.out.size)); rw [← hb.cell (p := ⟨w.heap.size, 4, none⟩) (by simp)] at x4; clear hb)
    | (go_at_call 77; (with_reducible refine (C2 _ HB1.out).mono ?_); rintro e w2 ⟨rfl, hb⟩; have HB2 := Lib.hid (HB1.out.trans (hb.mono HB1.out.size)); clear hb))
  go_ret
  exact ⟨rfl, HB2.out⟩
set_option maxRecDepth 100000 in
set_option maxHeartbeats 4000000 in
theorem idx0 (a : Option Addr) (c : Nat) (f : Value) (w : World) : Calls Tryz.prog 174 #[.slice a 0 c, f] w fun e w' => e = .returned (.int .i64 (-1)) ∧ Below w.heap.size w w' := by
  go_enter Tryz.func174, Tryz.ntmps174
  go_wp2
  go_loop [8] (fun i => i = .int .i64 0) (fun _ => 0)
  case atStart => rfl
  case round =>
    obtain rfl := hrel
    go_wp2
    go_ret
    exact ⟨rfl, Below.refl _ _⟩
set_option maxRecDepth 100000 in
set_option maxHeartbeats 4000000 in
theorem cont0 (a : Option Addr) (c : Nat) (f : Value) (w : World) : Calls Tryz.prog 136 #[.slice a 0 c, f] w fun e w' => e = .returned (.bool false) ∧ Below w.heap.size w w' := by
  have C := idx0 a c f w
  go_enter Tryz.func136, Tryz.ntmps136
  go_wp2_with (go_at_call 174; refine C.mono ?_; rintro e w1 ⟨rfl, hb⟩; have HB := Lib.hid hb; clear hb)
  go_ret
  exact ⟨rfl, HB.out⟩
set_option maxRecDepth 100000 in
set_option maxHeartbeats 4000000 in
theorem rightRep1 (a : Option Addr) (c : Nat) (w : World) : Calls Tryz.prog 78 #[.slice a 0 c] w fun e w' => e = .returned (.bool true) ∧ Below w.heap.size w w' := by
  have C := fun f => cont0 a c f w
  go_enter Tryz.func78, Tryz.ntmps78
  go_wp2_with (go_at_call 136; refine (C _).mono ?_; rintro e w1 ⟨rfl, hb⟩; have HB := Lib.hid hb; clear hb)
  go_ret
  exact ⟨rfl, HB.out⟩
set_option maxRecDepth 100000 in
set_option maxHeartbeats 4000000 in
theorem kchk0 (a : Option Addr) (c : Nat) (f g : Value) (w : World) : Calls Tryz.prog 82 #[.slice a 0 c, f, g] w fun e w' => e = .returned (.int .i64 0) ∧ Below w.heap.size w w' := by
  go_enter Tryz.func82, Tryz.ntmps82
  go_wp2
  go_loop [14] (fun i => i = .int .i64 0) (fun _ => 0)
  case atStart => rfl
  case round =>
    obtain rfl := hrel
    go_wp2
    go_ret
    exact ⟨rfl, Below.refl _ _⟩
set_option maxRecDepth 100000 in
set_option maxHeartbeats 4000000 in
theorem kchkF0 (a : Option Addr) (c : Nat) (f g : Value) (w : World) : Calls Tryz.prog 79 #[.slice a 0 c, f, g] w fun e w' => e = .returned (.int .i64 0) ∧ Below w.heap.size w w' := by
  go_enter Tryz.func79, Tryz.ntmps79
  go_wp2
  go_loop [14] (fun i => i = .int .i64 0) (fun _ => 0)
  case atStart => rfl
  case round =>
    obtain rfl := hrel
    go_wp2
    go_ret
    exact ⟨rfl, Below.refl _ _⟩
set_option maxRecDepth 100000 in
set_option maxHeartbeats 4000000 in
theorem rightLists1 (a3 a4 a5 a6 a7 a8 : Option Addr) (m3 m4 m5 m6 m7 m8 : Nat) (w : World) : Calls Tryz.prog 42 #[.agg #[.string ⟨#[97]⟩, .string ⟨#[49]⟩, .int .i64 7, .slice a3 0 m3, .slice a4 0 m4, .slice a5 0 m5, .slice a6 0 m6, .slice a7 0 m7, .slice a8 0 m8]] w fun e w' => e = .returned (.bool true) ∧ Below w.heap.size w w' := by
  obtain ⟨x0, x1, x2, x3, x4, x5, x6, x7, x8⟩ := boxV9 w (.string ⟨#[97]⟩) (.string ⟨#[49]⟩) (.int .i64 7) (.slice a3 0 m3) (.slice a4 0 m4) (.slice a5 0 m5) (.slice a6 0 m6) (.slice a7 0 m7) (.slice a8 0 m8) 32
  have B0 := (Below.refl w.heap.size w).alloc (Nat.le_refl _) (.cells #[.string ⟨#[97]⟩, .string ⟨#[49]⟩, .int .i64 7, .slice a3 0 m3, .slice a4 0 m4, .slice a5 0 m5, .slice a6 0 m6, .slice a7 0 m7, .slice a8 0 m8] 32)
  have B0 := Lib.hid B0
  have hlt : w.heap.size < (w.alloc (.cells #[.string ⟨#[97]⟩, .string ⟨#[49]⟩, .int .i64 7, .slice a3 0 m3, .slice a4 0 m4, .slice a5 0 m5, .slice a6 0 m6, .slice a7 0 m7, .slice a8 0 m8] 32)).heap.size := by simp
  have HB0 := Lib.hid (Below.refl (w.alloc (.cells #[.string ⟨#[97]⟩, .string ⟨#[49]⟩, .int .i64 7, .slice a3 0 m3, .slice a4 0 m4, .slice a5 0 m5, .slice a6 0 m6, .slice a7 0 m7, .slice a8 0 m8] 32)).heap.size (w.alloc (.cells #[.string ⟨#[97]⟩, .string ⟨#[49]⟩, .int .i64 7, .slice a3 0 m3, .slice a4 0 m4, .slice a5 0 m5, .slice a6 0 m6, .slice a7 0 m7, .slice a8 0 m8] 32)))
  have C1 := fun W => rightRep1 a5 m5 W
  have C2 := fun f g W => kchkF0 a6 m6 f g W
  have C3 := fun f g W => kchk0 a7 m7 f g W
  have C4 := fun f g W => kchk0 a8 m8 f g W
  go_enter Tryz.func42, Tryz.ntmps42
  go_wp2_with (first
    | (go_at_call 78; (with_reducible refine (C1 _).mono ?_); rintro e w1 ⟨rfl, hb⟩; have HB1 := Lib.hid (HB0.out.trans (hb.mono HB0.out.size)); have y1_6 := (HB1.out.cell (p := ⟨w.heap.size, 6, none⟩) hlt).trans x6; clear hb)
    | (go_at_call 79; (with_reducible refine (C2 _ _ _).mono ?_); rintro e w2 ⟨rfl, hb⟩; have HB2 := Lib.hid (HB1.out.trans (hb.mono HB1.out.size)); have y2_7 := (HB2.out.cell (p := ⟨w.heap.size, 7, none⟩) hlt).trans x7; clear hb)
    | (go_at_call 82; (with_reducible refine (C3 _ _ _).mono ?_); rintro e w3 ⟨rfl, hb⟩; have HB3 := Lib.hid (HB2.out.trans (hb.mono HB2.out.size)); have y3_8 := (HB3.out.cell (p := ⟨w.heap.size, 8, none⟩) hlt).trans x8; clear hb)
    | (go_at_call 82; (with_reducible refine (C4 _ _ _).mono ?_); rintro e w4 ⟨rfl, hb⟩; have HB4 := Lib.hid (HB3.out.trans (hb.mono HB3.out.size)); clear hb))
  go_ret
  exact ⟨rfl, B0.out.trans (HB4.out.mono B0.out.size)⟩
set_option maxRecDepth 100000 in
set_option maxHeartbeats 4000000 in
theorem right1 (a3 a4 a5 a6 a7 a8 : Option Addr) (m3 m4 m5 m6 m7 m8 : Nat) (w : World) (hL : LaidU w) : Calls Tryz.prog 16 #[.agg #[.string ⟨#[97]⟩, .string ⟨#[49]⟩, .int .i64 7, .slice a3 0 m3, .slice a4 0 m4, .slice a5 0 m5, .slice a6 0 m6, .slice a7 0 m7, .slice a8 0 m8]] w fun e w' => e = .returned (.bool true) ∧ Below w.heap.size w w' := by
  obtain ⟨x0, x1, x2, x3, x4, x5, x6, x7, x8⟩ := boxV9 w (.string ⟨#[97]⟩) (.string ⟨#[49]⟩) (.int .i64 7) (.slice a3 0 m3) (.slice a4 0 m4) (.slice a5 0 m5) (.slice a6 0 m6) (.slice a7 0 m7) (.slice a8 0 m8) 32
  have B0 := (Below.refl w.heap.size w).alloc (Nat.le_refl _) (.cells #[.string ⟨#[97]⟩, .string ⟨#[49]⟩, .int .i64 7, .slice a3 0 m3, .slice a4 0 m4, .slice a5 0 m5, .slice a6 0 m6, .slice a7 0 m7, .slice a8 0 m8] 32)
  have HL := Lib.hid (hL.on B0)
  have B0 := Lib.hid B0
  have hlt : w.heap.size < (w.alloc (.cells #[.string ⟨#[97]⟩, .string ⟨#[49]⟩, .int .i64 7, .slice a3 0 m3, .slice a4 0 m4, .slice a5 0 m5, .slice a6 0 m6, .slice a7 0 m7, .slice a8 0 m8] 32)).heap.size := by simp
  have HB0 := Lib.hid (Below.refl (w.alloc (.cells #[.string ⟨#[97]⟩, .string ⟨#[49]⟩, .int .i64 7, .slice a3 0 m3, .slice a4 0 m4, .slice a5 0 m5, .slice a6 0 m6, .slice a7 0 m7, .slice a8 0 m8] 32)).heap.size (w.alloc (.cells #[.string ⟨#[97]⟩, .string ⟨#[49]⟩, .int .i64 7, .slice a3 0 m3, .slice a4 0 m4, .slice a5 0 m5, .slice a6 0 m6, .slice a7 0 m7, .slice a8 0 m8] 32)))
  have C0 : ∀ W, Calls Tryz.prog 34 #[.string ⟨#[97]⟩] W fun e w' => e = .returned (.bool true) ∧ Below W.heap.size W w' := fun W => (name_any ⟨#[97]⟩ (by decide) W).mono fun e w' h => ⟨by rw [h.1, show nameB (ByteArray.mk #[97]).data.toList = true by decide +kernel], by rw [h.2]; exact Below.refl _ _⟩
  have C1 := fun W (hb : Below (w.alloc (.cells #[.string ⟨#[97]⟩, .string ⟨#[49]⟩, .int .i64 7, .slice a3 0 m3, .slice a4 0 m4, .slice a5 0 m5, .slice a6 0 m6, .slice a7 0 m7, .slice a8 0 m8] 32)).heap.size (w.alloc (.cells #[.string ⟨#[97]⟩, .string ⟨#[49]⟩, .int .i64 7, .slice a3 0 m3, .slice a4 0 m4, .slice a5 0 m5, .slice a6 0 m6, .slice a7 0 m7, .slice a8 0 m8] 32)) W) => rightVer1 W (HL.out.on hb).q.v
  have C2 := fun W (hb : Below (w.alloc (.cells #[.string ⟨#[97]⟩, .string ⟨#[49]⟩, .int .i64 7, .slice a3 0 m3, .slice a4 0 m4, .slice a5 0 m5, .slice a6 0 m6, .slice a7 0 m7, .slice a8 0 m8] 32)).heap.size (w.alloc (.cells #[.string ⟨#[97]⟩, .string ⟨#[49]⟩, .int .i64 7, .slice a3 0 m3, .slice a4 0 m4, .slice a5 0 m5, .slice a6 0 m6, .slice a7 0 m7, .slice a8 0 m8] 32)) W) => rightState1 a3 a4 a5 a6 a7 a8 m3 m4 m5 m6 m7 m8 W (HL.out.on hb)
  have C3 := fun W (hb : Below (w.alloc (.cells #[.string ⟨#[97]⟩, .string ⟨#[49]⟩, .int .i64 7, .slice a3 0 m3, .slice a4 0 m4, .slice a5 0 m5, .slice a6 0 m6, .slice a7 0 m7, .slice a8 0 m8] 32)).heap.size (w.alloc (.cells #[.string ⟨#[97]⟩, .string ⟨#[49]⟩, .int .i64 7, .slice a3 0 m3, .slice a4 0 m4, .slice a5 0 m5, .slice a6 0 m6, .slice a7 0 m7, .slice a8 0 m8] 32)) W) => rightRels1 a3 a4 a5 a6 a7 a8 m3 m4 m5 m6 m7 m8 W (HL.out.on hb)
  have C4 := fun W => rightLists1 a3 a4 a5 a6 a7 a8 m3 m4 m5 m6 m7 m8 W
  clear hL
  go_enter Tryz.func16, Tryz.ntmps16
  go_wp2_with (first
    | (go_at_call 34; (with_reducible refine (C0 _).mono ?_); rintro e w1 ⟨rfl, hb⟩; have HB1 := Lib.hid (HB0.out.trans (hb.mono HB0.out.size)); have y1_1 := (HB1.out.cell (p := ⟨w.heap.size, 1, none⟩) hlt).trans x1; clear hb)
    | (go_at_call 39; (with_reducible refine (C1 _ HB1.out).mono ?_); rintro e w2 ⟨rfl, hb⟩; have HB2 := Lib.hid (HB1.out.trans (hb.mono HB1.out.size)); have y2_0 := (HB2.out.cell (p := ⟨w.heap.size, 0, none⟩) hlt).trans x0; have y2_1 := (HB2.out.cell (p := ⟨w.heap.size, 1, none⟩) hlt).trans x1; have y2_2 := (HB2.out.cell (p := ⟨w.heap.size, 2, none⟩) hlt).trans x2; have y2_3 := (HB2.out.cell (p := ⟨w.heap.size, 3, none⟩) hlt).trans x3; have y2_4 := (HB2.out.cell (p := ⟨w.heap.size, 4, none⟩) hlt).trans x4; have y2_5 := (HB2.out.cell (p := ⟨w.heap.size, 5, none⟩) hlt).trans x5; have y2_6 := (HB2.out.cell (p := ⟨w.heap.size, 6, none⟩) hlt).trans x6; have y2_7 := (HB2.out.cell (p := ⟨w.heap.size, 7, none⟩) hlt).trans x7; have y2_8 := (HB2.out.cell (p := ⟨w.heap.size, 8, none⟩) hlt).trans x8; clear hb)
    | (go_at_call 40; (with_reducible refine (C2 _ HB2.out).mono ?_); rintro e w3 ⟨rfl, hb⟩; have HB3 := Lib.hid (HB2.out.trans (hb.mono HB2.out.size)); have y3_0 := (HB3.out.cell (p := ⟨w.heap.size, 0, none⟩) hlt).trans x0; have y3_1 := (HB3.out.cell (p := ⟨w.heap.size, 1, none⟩) hlt).trans x1; have y3_2 := (HB3.out.cell (p := ⟨w.heap.size, 2, none⟩) hlt).trans x2; have y3_3 := (HB3.out.cell (p := ⟨w.heap.size, 3, none⟩) hlt).trans x3; have y3_4 := (HB3.out.cell (p := ⟨w.heap.size, 4, none⟩) hlt).trans x4; have y3_5 := (HB3.out.cell (p := ⟨w.heap.size, 5, none⟩) hlt).trans x5; have y3_6 := (HB3.out.cell (p := ⟨w.heap.size, 6, none⟩) hlt).trans x6; have y3_7 := (HB3.out.cell (p := ⟨w.heap.size, 7, none⟩) hlt).trans x7; have y3_8 := (HB3.out.cell (p := ⟨w.heap.size, 8, none⟩) hlt).trans x8; clear hb)
    | (go_at_call 41; (with_reducible refine (C3 _ HB3.out).mono ?_); rintro e w4 ⟨rfl, hb⟩; have HB4 := Lib.hid (HB3.out.trans (hb.mono HB3.out.size)); have y4_0 := (HB4.out.cell (p := ⟨w.heap.size, 0, none⟩) hlt).trans x0; have y4_1 := (HB4.out.cell (p := ⟨w.heap.size, 1, none⟩) hlt).trans x1; have y4_2 := (HB4.out.cell (p := ⟨w.heap.size, 2, none⟩) hlt).trans x2; have y4_3 := (HB4.out.cell (p := ⟨w.heap.size, 3, none⟩) hlt).trans x3; have y4_4 := (HB4.out.cell (p := ⟨w.heap.size, 4, none⟩) hlt).trans x4; have y4_5 := (HB4.out.cell (p := ⟨w.heap.size, 5, none⟩) hlt).trans x5; have y4_6 := (HB4.out.cell (p := ⟨w.heap.size, 6, none⟩) hlt).trans x6; have y4_7 := (HB4.out.cell (p := ⟨w.heap.size, 7, none⟩) hlt).trans x7; have y4_8 := (HB4.out.cell (p := ⟨w.heap.size, 8, none⟩) hlt).trans x8; clear hb)
    | (go_at_call 42; (with_reducible refine (C4 _).mono ?_); rintro e w5 ⟨rfl, hb⟩; have HB5 := Lib.hid (HB4.out.trans (hb.mono HB4.out.size)); clear hb))
  go_ret
  exact ⟨rfl, B0.out.trans (HB5.out.mono B0.out.size)⟩
end Go.Proofs.YtbeoklihpkfofaaGreatDoor
