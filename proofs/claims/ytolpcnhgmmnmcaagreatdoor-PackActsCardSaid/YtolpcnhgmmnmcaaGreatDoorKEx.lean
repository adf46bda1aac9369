/-
  The program's Right of a package that has a name and a version alone, and Act of a fired trigger: true; nothing old turns. Condition: LaidV.
-/
import Derived.Test.YtolpcnhgmmnmcaaGreatDoorKNil
import Derived.Test.YtolpcnhgmmnmcaaGreatDoorVPParse
import Derived.Test.YtolpcnhgmmnmcaaGreatDoorPName
import Derived.Test.YtolpcnhgmmnmcaaGreatDoorLList
namespace Go.Proofs.YtolpcnhgmmnmcaaGreatDoor
open Go.RowKit Go.Shelf
theorem verK (w : World) (h : LaidV w) : Calls Tryz.prog 26 #[.string ⟨#[49]⟩] w fun e w' => e = .returned (.bool true) ∧ Below w.heap.size w w' := by
  have P := parse_any ⟨#[49]⟩ (by decide) w h
  unfold ParsePost at P
  have HE : parseV (ByteArray.mk #[49]).data.toList = .tuple #[.agg #[.int .i64 0, .string ⟨#[49]⟩, .string ⟨#[48]⟩], .int .i64 0] := by
    have hv : verOf [49] = some (0, [49], [48]) := by decide +kernel
    exact parseV_some (l := [49]) (by decide) hv
  rw [HE] at P
  clear HE h
  go_enter Tryz.func26, Tryz.ntmps26
  go_wp2_with (go_at_call 45; (with_reducible refine P.mono ?_); rintro e w1 ⟨rfl, hb⟩; have HB := Lib.hid hb; clear hb)
  go_ret
  exact ⟨rfl, HB.out.alloc HB.out.size _⟩
set_option maxHeartbeats 2000000 in
theorem fullK1 (w : World) : Calls Tryz.prog 73 #[nilK] w fun e w' => e = .returned (.bool false) ∧ w = w' := by
  unfold nilK
  go_enter Tryz.func73, Tryz.ntmps73
  go_wp2
  go_ret
  exact ⟨rfl, rfl⟩
set_option maxHeartbeats 2000000 in
theorem fullK2 (w : World) : Calls Tryz.prog 75 #[nilK] w fun e w' => e = .returned (.bool false) ∧ w = w' := by
  unfold nilK
  go_enter Tryz.func75, Tryz.ntmps75
  go_wp2
  go_ret
  exact ⟨rfl, rfl⟩
theorem joinNoK (s : ByteArray) (w : World) : Calls Tryz.prog 96 #[nilK, .string s] w fun e w' => e = .returned (.string ⟨#[]⟩) ∧ Below w.heap.size w w' := by
  exact (Tryz.strings_Join_none none 0 s w).mono fun e w' h => ⟨h.1, by rw [h.2]; exact Below.refl _ _⟩
set_option maxHeartbeats 2000000 in
theorem joinedK1 (s : ByteArray) (f : Value) (w : World) : Calls Tryz.prog 77 #[nilK, .string s, f] w fun e w' => e = .returned (.string ⟨#[]⟩) ∧ Below w.heap.size w w' := by
  have J := fun W => joinNoK s W
  unfold nilK at J ⊢
  go_enter Tryz.func77, Tryz.ntmps77
  go_wp2
  go_loop [7, 12] (fun u i => u = .slice none 0 0 ∧ i = .int .i64 0) (fun _ _ => 0)
  case atStart => exact ⟨rfl, rfl⟩
  case round =>
    obtain ⟨rfl, rfl⟩ := hrel
    go_wp2_with (go_at_call 96; (with_reducible refine (J _).mono ?_); rintro e w1 ⟨rfl, hb⟩; have HB := Lib.hid hb; clear hb)
    go_ret
    exact ⟨rfl, HB.out⟩
set_option maxHeartbeats 2000000 in
theorem joinedK2 (s : ByteArray) (f : Value) (w : World) : Calls Tryz.prog 79 #[nilK, .string s, f] w fun e w' => e = .returned (.string ⟨#[]⟩) ∧ Below w.heap.size w w' := by
  have J := fun W => joinNoK s W
  unfold nilK at J ⊢
  go_enter Tryz.func79, Tryz.ntmps79
  go_wp2
  go_loop [7, 12] (fun u i => u = .slice none 0 0 ∧ i = .int .i64 0) (fun _ _ => 0)
  case atStart => exact ⟨rfl, rfl⟩
  case round =>
    obtain ⟨rfl, rfl⟩ := hrel
    go_wp2_with (go_at_call 96; (with_reducible refine (J _).mono ?_); rintro e w1 ⟨rfl, hb⟩; have HB := Lib.hid hb; clear hb)
    go_ret
    exact ⟨rfl, HB.out⟩
set_option maxHeartbeats 2000000 in
theorem allK (w : World) : Calls Tryz.prog 46 #[nilK] w fun e w' => e = .returned (.tuple #[.string ⟨#[]⟩, .int .i64 0]) ∧ Below w.heap.size w w' := by
  have F := fun W => fullK1 W
  have C := fun f W => contNilRls f W
  have J := fun s f W => joinedK1 s f W
  unfold nilK at F C J ⊢
  go_enter Tryz.func46, Tryz.ntmps46
  go_wp2_with (first
    | (go_at_call 73; (with_reducible refine (F _).mono ?_); rintro e w1 ⟨rfl, rfl⟩)
    | (go_at_call 74; (with_reducible refine (C _ _).mono ?_); rintro e w1 ⟨rfl, rfl⟩))
  go_loop [14] (fun i => i = .int .i64 0) (fun _ => 0)
  case atStart => rfl
  case round =>
    subst hrel
    go_wp2_with (go_at_call 77; (with_reducible refine (J _ _ _).mono ?_); rintro e w1 ⟨rfl, hb⟩; have HB := Lib.hid hb; clear hb)
    go_ret2
    exact ⟨rfl, HB.out⟩
set_option maxHeartbeats 2000000 in
theorem allRightK (w : World) : Calls Tryz.prog 76 #[nilK] w fun e w' => e = .returned (.bool true) ∧ w = w' := by
  have C := fun f W => contNilRel f W
  unfold nilK at C ⊢
  go_enter Tryz.func76, Tryz.ntmps76
  go_wp2_with (go_at_call 111; (with_reducible refine (C _ _).mono ?_); rintro e w1 ⟨rfl, rfl⟩)
  go_ret
  exact ⟨rfl, rfl⟩
set_option maxHeartbeats 2000000 in
theorem listK (w : World) : Calls Tryz.prog 47 #[nilK] w fun e w' => e = .returned (.tuple #[.string ⟨#[]⟩, .int .i64 0]) ∧ Below w.heap.size w w' := by
  have F := fun W => fullK2 W
  have C := fun W => allRightK W
  have J := fun s f W => joinedK2 s f W
  unfold nilK at F C J ⊢
  go_enter Tryz.func47, Tryz.ntmps47
  go_wp2_with (first
    | (go_at_call 75; (with_reducible refine (F _).mono ?_); rintro e w1 ⟨rfl, rfl⟩)
    | (go_at_call 76; (with_reducible refine (C _).mono ?_); rintro e w1 ⟨rfl, rfl⟩)
    | (go_at_call 79; (with_reducible refine (J _ _ _).mono ?_); rintro e w1 ⟨rfl, hb⟩; have HB := Lib.hid hb; clear hb))
  go_ret2
  exact ⟨rfl, HB.out⟩
theorem sortNoK (w : World) : Calls Tryz.prog 54 #[nilK] w fun e w' => (∃ a c, e = .returned (.slice a 0 c)) ∧ Below w.heap.size w w' := by
  have S := fun W => (Tryz.slices_Sort_string_none none 0 W)
  have C := fun W => (Tryz.slices_Compact_string_empty none 0 W)
  unfold nilK
  have HR := Lib.hid (Below.refl w.heap.size w)
  go_enter Tryz.func54, Tryz.ntmps54
  go_wp2_with (first
    | (go_at_call 85; (with_reducible refine (S _).mono ?_); rintro e w1 ⟨rfl, rfl⟩)
    | (go_at_call 86; (with_reducible refine (C _).mono ?_); rintro e w1 ⟨rfl, rfl⟩))
  go_ret
  exact ⟨⟨none, 0, rfl⟩, HR.out⟩
abbrev pkK : Value := .agg #[.string ⟨#[97]⟩, .string ⟨#[49]⟩, nilK, nilK, nilK, nilK, nilK, nilK, nilK, nilK, nilK]
set_option maxHeartbeats 4000000 in
theorem relsK (w : World) : Calls Tryz.prog 27 #[pkK] w fun e w' => e = .returned (.bool true) ∧ Below w.heap.size w w' := by
  have A := fun W => allK W
  have L := fun W => listK W
  have B0 := (Below.refl w.heap.size w).alloc (Nat.le_refl _) (.cells #[.string ⟨#[97]⟩, .string ⟨#[49]⟩, nilK, nilK, nilK, nilK, nilK, nilK, nilK, nilK, nilK] 46)
  have x3 : (w.alloc (.cells #[.string ⟨#[97]⟩, .string ⟨#[49]⟩, nilK, nilK, nilK, nilK, nilK, nilK, nilK, nilK, nilK] 46)).cell? ⟨w.heap.size, 3, none⟩ = some nilK := by rw [World.cell?_alloc_new]; rfl
  have HX : Hid (∀ W, Below (w.alloc (.cells #[.string ⟨#[97]⟩, .string ⟨#[49]⟩, nilK, nilK, nilK, nilK, nilK, nilK, nilK, nilK, nilK] 46)).heap.size (w.alloc (.cells #[.string ⟨#[97]⟩, .string ⟨#[49]⟩, nilK, nilK, nilK, nilK, nilK, nilK, nilK, nilK, nilK] 46)) W → W.cell? ⟨w.heap.size, 3, none⟩ = some nilK) := Lib.hid (fun W hW => (hW.cell (World.block_lt_of_cell? _ _ x3)).trans x3)
  have HB0 := Lib.hid B0
  clear B0 x3
  unfold pkK
  unfold nilK at *
  go_enter Tryz.func27, Tryz.ntmps27
  go_wp2_with (first
    | (go_at_call 46; (with_reducible refine (A _).mono ?_); rintro e w1 ⟨rfl, hb⟩; have y3 := HX.out _ hb; have HB1 := Lib.hid (HB0.out.trans (hb.mono HB0.out.size)); clear hb)
    | (go_at_call 47; (with_reducible refine (L _).mono ?_); rintro e w2 ⟨rfl, hb⟩; have HB2 := Lib.hid (HB1.out.trans (hb.mono HB1.out.size)); clear hb))
  go_ret
  exact ⟨rfl, HB2.out⟩
set_option maxHeartbeats 4000000 in
theorem replK (w : World) : Calls Tryz.prog 28 #[nilK] w fun e w' => e = .returned (.bool true) ∧ Below w.heap.size w w' := by
  have E := fun g lb W => everyNilStr g lb W
  unfold nilK at E ⊢
  go_enter Tryz.func28, Tryz.ntmps28
  go_wp2_with (go_at_call 40; (with_reducible refine (E _ _ _).mono ?_); rintro e w1 ⟨rfl, hb⟩; have HB := Lib.hid hb; clear hb)
  go_ret
  exact ⟨rfl, HB.out⟩
set_option maxHeartbeats 4000000 in
theorem chkFilK (f g : Value) (w : World) : Calls Tryz.prog 48 #[nilK, f, g] w fun e w' => e = .returned (.int .i64 0) ∧ w = w' := by
  unfold nilK
  go_enter Tryz.func48, Tryz.ntmps48
  go_wp2
  go_loop [14] (fun i => i = .int .i64 0) (fun _ => 0)
  case atStart => rfl
  case round =>
    subst hrel
    go_wp2
    go_ret
    exact ⟨rfl, rfl⟩
set_option maxHeartbeats 4000000 in
theorem filesK (w : World) : Calls Tryz.prog 29 #[nilK] w fun e w' => e = .returned (.bool true) ∧ Below w.heap.size w w' := by
  have E := fun g lb W => everyNilFil g lb W
  have C := fun f g W => chkFilK f g W
  have HB0 := Lib.hid ((Below.refl w.heap.size w).alloc (Nat.le_refl _) (.cells #[nilK] 42))
  have x0 := boxV1 w nilK 42
  unfold nilK at *
  go_enter Tryz.func29, Tryz.ntmps29
  go_wp2_with (first
    | (go_at_call 48; (with_reducible refine (C _ _ _).mono ?_); rintro e w1 ⟨rfl, rfl⟩)
    | (go_at_call 51; (with_reducible refine (E _ _ _).mono ?_); rintro e w1 ⟨rfl, hb⟩; have HB := Lib.hid (HB0.out.trans (hb.mono HB0.out.size)); clear hb))
  go_ret
  exact ⟨rfl, HB.out⟩
set_option maxHeartbeats 4000000 in
theorem intsK (w : World) : Calls Tryz.prog 30 #[nilK] w fun e w' => e = .returned (.bool true) ∧ Below w.heap.size w w' := by
  have E := fun g lb W => everyNilStr g lb W
  have S := fun W => sortNoK W
  unfold nilK at *
  go_enter Tryz.func30, Tryz.ntmps30
  go_wp2
  go_loop [3, 11] (fun u i => u = .slice none 0 0 ∧ i = .int .i64 0) (fun _ _ => 0)
  case atStart => exact ⟨rfl, rfl⟩
  case round =>
    obtain ⟨rfl, rfl⟩ := hrel
    go_wp2_with (first
      | (go_at_call 40; (with_reducible refine (E _ _ _).mono ?_); rintro e w1 ⟨rfl, hb⟩; have HB := Lib.hid hb; clear hb)
      | (go_at_call 54; (with_reducible refine (S _).mono ?_); rintro e w2 ⟨⟨sa, sc, rfl⟩, hb⟩; have HB2 := Lib.hid (HB.out.trans (hb.mono HB.out.size)); clear hb))
    go_ret
    exact ⟨rfl, HB2.out⟩
set_option maxHeartbeats 4000000 in
theorem trigK (w : World) : Calls Tryz.prog 19 #[.string ⟨#[116]⟩] w fun e w' => e = .returned (.bool true) ∧ w = w' := by
  have N : ∀ W, Calls Tryz.prog 13 #[.string ⟨#[116]⟩] W fun e w' => e = .returned (.bool true) ∧ W = w' := fun W => by
    have := name_any ⟨#[116]⟩ (by decide) W
    rwa [show nameB (ByteArray.mk #[116]).data.toList = true by decide +kernel] at this
  go_enter Tryz.func19, Tryz.ntmps19
  go_wp2_with (go_at_call 13; (with_reducible refine (N _).mono ?_); rintro e w1 ⟨rfl, rfl⟩)
  go_ret
  exact ⟨rfl, rfl⟩
set_option maxHeartbeats 4000000 in
theorem actK (w : World) : Calls Tryz.prog 6 #[.agg #[.int .i64 10, .string ⟨#[116]⟩, .string ⟨#[]⟩, .string ⟨#[]⟩, .int .i64 0, .int .i64 0, .int .i64 0, .int .i64 0, .bool false, .bool false, nilK, nilK]] w fun e w' => e = .returned (.bool true) ∧ Below w.heap.size w w' := by
  have T := fun W => trigK W
  have HB0 := Lib.hid ((Below.refl w.heap.size w).alloc (Nat.le_refl _) (.cells #[.int .i64 10, .string ⟨#[116]⟩, .string ⟨#[]⟩, .string ⟨#[]⟩, .int .i64 0, .int .i64 0, .int .i64 0, .int .i64 0, .bool false, .bool false, nilK, nilK] 27))
  unfold nilK at *
  go_enter Tryz.func6, Tryz.ntmps6
  go_wp2_with (go_at_call 19; (with_reducible refine (T _).mono ?_); rintro e w1 ⟨rfl, rfl⟩)
  go_ret
  exact ⟨rfl, HB0.out⟩
set_option maxHeartbeats 4000000 in
theorem scr1K (w : World) : Calls Tryz.prog 56 #[nilK] w fun e w' => e = .returned (.bool true) ∧ Below w.heap.size w w' := by
  have E := fun g lb W => everyNilAct g lb W
  unfold nilK at E ⊢
  go_enter Tryz.func56, Tryz.ntmps56
  go_wp2_with (go_at_call 57; (with_reducible refine (E _ _ _).mono ?_); rintro e w1 ⟨rfl, hb⟩; have HB := Lib.hid hb; clear hb)
  go_ret
  exact ⟨rfl, HB.out⟩
set_option maxHeartbeats 4000000 in
theorem evr1K (b : Nat) (w : World) (h : w.cell? ⟨b, 0, none⟩ = some (.func (.func 56) #[] #[])) : Calls Tryz.prog 88 #[nilK, .pointer (some ⟨b, 0, none⟩)] w fun e w' => e = .returned (.bool false) ∧ Below w.heap.size w w' := by
  have E := fun W => scr1K W
  unfold nilK at E ⊢
  go_enter Tryz.func88, Tryz.ntmps88
  go_wp2_with (go_at_call 56; (with_reducible refine (E _).mono ?_); rintro e w1 ⟨rfl, hb⟩; have HB := Lib.hid hb; clear hb)
  go_ret
  exact ⟨rfl, HB.out⟩
set_option maxRecDepth 100000 in
set_option maxHeartbeats 4000000 in
theorem idxK (b p : Nat) (w : World) (hb : b < w.heap.size) (hc : ∀ j, j < 4 → w.cell? ⟨b, j, none⟩ = some nilK) (h : w.cell? ⟨p, 0, none⟩ = some (.func (.func 56) #[] #[])) :
    Calls Tryz.prog 117 #[.slice (some ⟨b, 0, none⟩) 4 4, .func (.func 88) #[] #[.pointer (some ⟨p, 0, none⟩)]] w fun e w' => e = .returned (.int .i64 (-1)) ∧ Below w.heap.size w w' := by
  have HC := Lib.hid hc
  have HP : Hid (∀ W, Below w.heap.size w W → Calls Tryz.prog 88 #[.slice none 0 0, .pointer (some ⟨p, 0, none⟩)] W fun e w' => e = .returned (.bool false) ∧ Below W.heap.size W w') := Lib.hid (fun W hW => evr1K p W ((hW.cell (World.block_lt_of_cell? _ _ h)).trans h))
  unfold nilK at HC
  clear hc h
  go_enter Tryz.func117, Tryz.ntmps117
  go_wp2
  go_loopw [8] (fun i wr => ∃ k : Nat, k ≤ 4 ∧ i = .int .i64 k ∧ Hid (Below w.heap.size w wr)) (fun i _ => 4 - (intOf i).toNat)
  case atStart => exact ⟨0, by omega, rfl, Lib.hid (Below.refl _ _)⟩
  case round =>
    obtain ⟨k, hk, rfl, HB⟩ := hrel
    by_cases hlt : k < 4
    · have c0 := HC.out k hlt
      rw [← HB.out.cell (p := ⟨b, k, none⟩) hb] at c0
      have C := HP.out wr HB.out
      go_wp2_with (go_at_call 88; (with_reducible refine C.mono ?_); rintro e w1 ⟨rfl, hb1⟩; have HB1 := Lib.hid (HB.out.trans (hb1.mono HB.out.size)); clear hb1)
      go_roundw
      case rel => exact ⟨k + 1, by omega, by go_num, HB1⟩
      case measure => simp [intOf]; omega
    · obtain rfl : k = 4 := by omega
      clear hlt
      go_wp2
      go_ret
      exact ⟨rfl, HB.out⟩
set_option maxHeartbeats 4000000 in
theorem contK (b p : Nat) (w : World) (hb : b < w.heap.size) (hc : ∀ j, j < 4 → w.cell? ⟨b, j, none⟩ = some nilK) (h : w.cell? ⟨p, 0, none⟩ = some (.func (.func 56) #[] #[])) :
    Calls Tryz.prog 87 #[.slice (some ⟨b, 0, none⟩) 4 4, .func (.func 88) #[] #[.pointer (some ⟨p, 0, none⟩)]] w fun e w' => e = .returned (.bool false) ∧ Below w.heap.size w w' := by
  have I := idxK b p w hb hc h
  clear hc h
  go_enter Tryz.func87, Tryz.ntmps87
  go_wp2_with (go_at_call 117; (with_reducible refine I.mono ?_); rintro e w1 ⟨rfl, hb1⟩; have HB := Lib.hid hb1; clear hb1)
  go_ret
  exact ⟨rfl, HB.out⟩
set_option maxHeartbeats 4000000 in
theorem evrK (b : Nat) (w : World) (hb : b < w.heap.size) (hc : ∀ j, j < 4 → w.cell? ⟨b, j, none⟩ = some nilK) :
    Calls Tryz.prog 55 #[.slice (some ⟨b, 0, none⟩) 4 4, .func (.func 56) #[] #[]] w fun e w' => e = .returned (.bool true) ∧ Below w.heap.size w w' := by
  have B0 := (Below.refl w.heap.size w).alloc (Nat.le_refl _) (.cells #[.func (.func 56) #[] #[]] 85)
  have C := contK b w.heap.size (w.alloc (.cells #[.func (.func 56) #[] #[]] 85)) (by rw [World.size_alloc]; omega) (fun j hj => (B0.cell (p := ⟨b, j, none⟩) hb).trans (hc j hj)) (boxV1 w _ _)
  have HB0 := Lib.hid B0
  clear hc B0
  go_enter Tryz.func55, Tryz.ntmps55
  go_wp2_with (go_at_call 87; (with_reducible refine C.mono ?_); rintro e w1 ⟨rfl, hb1⟩; have HB := Lib.hid (HB0.out.trans (hb1.mono HB0.out.size)); clear hb1)
  go_ret
  exact ⟨rfl, HB.out⟩
set_option maxHeartbeats 4000000 in
theorem scrK (w : World) : Calls Tryz.prog 31 #[.agg #[nilK, nilK, nilK, nilK]] w fun e w' => e = .returned (.bool true) ∧ Below w.heap.size w w' := by
  have B0 := (Below.refl w.heap.size w).alloc (Nat.le_refl _) (.cells #[nilK, nilK, nilK, nilK] 44)
  have E := evrK w.heap.size (w.alloc (.cells #[nilK, nilK, nilK, nilK] 44)) (by rw [World.size_alloc]; omega) (fun j hj => by
    rw [World.cell?_alloc_new]
    match j, hj with
    | 0, _ => rfl
    | 1, _ => rfl
    | 2, _ => rfl
    | 3, _ => rfl)
  have HB0 := Lib.hid B0
  clear B0
  unfold nilK at *
  go_enter Tryz.func31, Tryz.ntmps31
  go_wp2_with (go_at_call 55; (with_reducible refine E.mono ?_); rintro e w1 ⟨rfl, hb1⟩; have HB := Lib.hid (HB0.out.trans (hb1.mono HB0.out.size)); clear hb1)
  go_ret
  exact ⟨rfl, HB.out⟩
end Go.Proofs.YtolpcnhgmmnmcaaGreatDoor
