/-
  cellarerlaw19's awake: true; nothing old turns. Conditions: LaidK, LaidV.
-/
import Derived.Test.YtolpcnhgmmnmcaaGreatDoorKEx
import Derived.Test.YtolpcnhgmmnmcaaGreatDoorKEnd
namespace Go.Proofs.YtolpcnhgmmnmcaaGreatDoor
open Go.RowKit Go.Shelf
abbrev obK : Obj := .cells #[.string ⟨#[97]⟩, .string ⟨#[49]⟩, nilK, nilK, nilK, nilK, nilK, nilK, nilK, nilK, nilK] 46
set_option maxRecDepth 100000 in
set_option maxHeartbeats 8000000 in
theorem rightK (w : World) (hV : LaidV w) : Calls Tryz.prog 9 #[pkK] w fun e w' => e = .returned (.bool true) ∧ Below w.heap.size w w' := by
  have B0 := (Below.refl w.heap.size w).alloc (Nat.le_refl _) obK
  have N : ∀ W, Calls Tryz.prog 13 #[.string ⟨#[97]⟩] W fun e w' => e = .returned (.bool true) ∧ W = w' := fun W => by
    have := name_any ⟨#[97]⟩ (by decide) W
    rwa [show nameB (ByteArray.mk #[97]).data.toList = true by decide +kernel] at this
  have V := verK (w.alloc obK) (hV.on B0)
  have R := fun W => relsK W
  have P := fun W => replK W
  have F := fun W => filesK W
  have I := fun W => intsK W
  have S := fun W => scrK W
  have cell : ∀ i v, (#[Value.string ⟨#[97]⟩, .string ⟨#[49]⟩, nilK, nilK, nilK, nilK, nilK, nilK, nilK, nilK, nilK] : Array Value)[i]? = some v → (w.alloc obK).cell? ⟨w.heap.size, i, none⟩ = some v := fun i v h => by
    rw [World.cell?_alloc_new]; exact h
  have HX : Hid (∀ W, Below (w.alloc obK).heap.size (w.alloc obK) W → W.cell? ⟨w.heap.size, 0, none⟩ = some (.string ⟨#[97]⟩) ∧ W.cell? ⟨w.heap.size, 1, none⟩ = some (.string ⟨#[49]⟩) ∧ W.cell? ⟨w.heap.size, 2, none⟩ = some nilK ∧ W.cell? ⟨w.heap.size, 3, none⟩ = some nilK ∧ W.cell? ⟨w.heap.size, 4, none⟩ = some nilK ∧ W.cell? ⟨w.heap.size, 5, none⟩ = some nilK ∧ W.cell? ⟨w.heap.size, 6, none⟩ = some nilK ∧ W.cell? ⟨w.heap.size, 7, none⟩ = some nilK ∧ W.cell? ⟨w.heap.size, 8, none⟩ = some nilK ∧ W.cell? ⟨w.heap.size, 9, none⟩ = some nilK ∧ W.cell? ⟨w.heap.size, 10, none⟩ = some nilK) := Lib.hid (fun W hW => by
    have k := fun i v h => (hW.cell (World.block_lt_of_cell? _ _ (cell i v h))).trans (cell i v h)
    exact ⟨k 0 _ rfl, k 1 _ rfl, k 2 _ rfl, k 3 _ rfl, k 4 _ rfl, k 5 _ rfl, k 6 _ rfl, k 7 _ rfl, k 8 _ rfl, k 9 _ rfl, k 10 _ rfl⟩)
  have HB0 := Lib.hid B0
  obtain ⟨a0, a1, a2, a3, a4, a5, a6, a7, a8, a9, a10⟩ := HX.out _ (Below.refl _ _)
  clear hV B0 cell
  unfold pkK at R ⊢
  unfold obK at *
  unfold nilK at *
  go_enter Tryz.func9, Tryz.ntmps9
  go_wp2_with (first
    | (go_at_call 13; (with_reducible refine (N _).mono ?_); rintro e w1 ⟨rfl, rfl⟩)
    | (go_at_call 26; (with_reducible refine V.mono ?_); rintro e w1 ⟨rfl, hb⟩; clear a0 a1 a2 a3 a4 a5 a6 a7 a8 a9 a10; obtain ⟨a0, a1, a2, a3, a4, a5, a6, a7, a8, a9, a10⟩ := HX.out _ hb; have HQ1 := Lib.hid hb; clear hb)
    | (go_at_call 27; (with_reducible refine (R _).mono ?_); rintro e w2 ⟨rfl, hb⟩; have HQ2 := Lib.hid (HQ1.out.trans (hb.mono HQ1.out.size)); clear a0 a1 a2 a3 a4 a5 a6 a7 a8 a9 a10; obtain ⟨a0, a1, a2, a3, a4, a5, a6, a7, a8, a9, a10⟩ := HX.out _ HQ2.out; clear hb)
    | (go_at_call 28; (with_reducible refine (P _).mono ?_); rintro e w3 ⟨rfl, hb⟩; have HQ3 := Lib.hid (HQ2.out.trans (hb.mono HQ2.out.size)); clear a0 a1 a2 a3 a4 a5 a6 a7 a8 a9 a10; obtain ⟨a0, a1, a2, a3, a4, a5, a6, a7, a8, a9, a10⟩ := HX.out _ HQ3.out; clear hb)
    | (go_at_call 29; (with_reducible refine (F _).mono ?_); rintro e w4 ⟨rfl, hb⟩; have HQ4 := Lib.hid (HQ3.out.trans (hb.mono HQ3.out.size)); clear a0 a1 a2 a3 a4 a5 a6 a7 a8 a9 a10; obtain ⟨a0, a1, a2, a3, a4, a5, a6, a7, a8, a9, a10⟩ := HX.out _ HQ4.out; clear hb)
    | (go_at_call 30; (with_reducible refine (I _).mono ?_); rintro e w5 ⟨rfl, hb⟩; have HQ5 := Lib.hid (HQ4.out.trans (hb.mono HQ4.out.size)); clear a0 a1 a2 a3 a4 a5 a6 a7 a8 a9 a10; obtain ⟨a0, a1, a2, a3, a4, a5, a6, a7, a8, a9, a10⟩ := HX.out _ HQ5.out; clear hb)
    | (go_at_call 31; (with_reducible refine (S _).mono ?_); rintro e w6 ⟨rfl, hb⟩; have HQ6 := Lib.hid (HB0.out.trans ((HQ5.out.trans (hb.mono HQ5.out.size)).mono HB0.out.size)); clear hb))
  go_ret
  exact ⟨rfl, HQ6.out⟩
structure LaidR (w : World) : Prop where
  k : LaidK w
  v : LaidV w
theorem LaidR.on {w w' : World} (h : LaidR w) (hb : Below w.heap.size w w') : LaidR w' := ⟨h.k.on hb, h.v.on hb⟩
set_option maxRecDepth 100000 in
set_option maxHeartbeats 8000000 in
theorem awake19 (w : World) (hL : LaidR w) : Calls Tryz.prog 5 #[] w fun e w' => e = .returned (.bool true) ∧ Below w.heap.size w w' := by
  have R := rightK w hL.v
  have T := fun W => actK W
  have S : ∀ W, Below w.heap.size w W → Calls Tryz.prog 10 #[.string ⟨#[47, 118, 97, 114, 47, 108, 105, 98, 47, 100, 112, 107, 103, 47, 115, 116, 97, 116, 117, 115]⟩] W fun e w' => e = .returned (.bool true) ∧ W = w' := fun W hb => by
    have := reserved_any ⟨#[47, 118, 97, 114, 47, 108, 105, 98, 47, 100, 112, 107, 103, 47, 115, 116, 97, 116, 117, 115]⟩ (by decide) W (hL.k.on hb)
    rwa [show rsvK (ByteArray.mk #[47, 118, 97, 114, 47, 108, 105, 98, 47, 100, 112, 107, 103, 47, 115, 116, 97, 116, 117, 115]).data.toList = true by decide +kernel] at this
  unfold pkK at R
  unfold nilK at R T
  clear hL
  go_enter Tryz.func5, Tryz.ntmps5
  go_wp2_with (first
    | (go_at_call 9; (with_reducible refine R.mono ?_); rintro e w1 ⟨rfl, hb⟩; have HB := Lib.hid hb; clear hb)
    | (go_at_call 10; (with_reducible refine (S _ HB.out).mono ?_); rintro e w1 ⟨rfl, rfl⟩)
    | (go_at_call 6; (with_reducible refine (T _).mono ?_); rintro e w2 ⟨rfl, hb⟩; have HB2 := Lib.hid (HB.out.trans (hb.mono HB.out.size)); clear hb))
  go_ret
  exact ⟨rfl, HB2.out⟩
end Go.Proofs.YtolpcnhgmmnmcaaGreatDoor
