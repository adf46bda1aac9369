import Derived.Test.YtkbkaeefdhkgdaaGreatDoorGUKeyT
import Derived.Test.YtkbkaeefdhkgdaaGreatDoorGQPParse
set_option maxRecDepth 100000
set_option maxHeartbeats 32000000
namespace Go.Proofs.YtkbkaeefdhkgdaaGreatDoor
open Go.RowKit
def wordsU : List Bs := [[], [99, 111, 110, 102, 105, 103, 45, 102, 105, 108, 101, 115], [104, 97, 108, 102, 45, 105, 110, 115, 116, 97, 108, 108, 101, 100], [117, 110, 112, 97, 99, 107, 101, 100], [104, 97, 108, 102, 45, 99, 111, 110, 102, 105, 103, 117, 114, 101, 100], [116, 114, 105, 103, 103, 101, 114, 115, 45, 97, 119, 97, 105, 116, 101, 100], [116, 114, 105, 103, 103, 101, 114, 115, 45, 112, 101, 110, 100, 105, 110, 103], [105, 110, 115, 116, 97, 108, 108, 101, 100]]
structure LaidU (w : World) : Prop where
 q : LaidQ w
 p : LaidP w
 ws : ∀ (k : Nat) (x : Bs), wordsU[k]? = some x → w.cell? ⟨0, k, none⟩ = some (.string (bsT x))
theorem LaidU.on {w w' : World} (h : LaidU w) (hb : Below w.heap.size w w') : LaidU w' :=
 ⟨h.q.on hb, h.p.on hb, fun k x hx => (hb.cell (World.block_lt_of_cell? w _ (h.ws k x hx))).trans (h.ws k x hx)⟩
def wordU (z : Int) : Bs := if z < 0 then [] else match wordsU[z.toNat]? with
 | some x => x
 | none => []
def stateU (s : Bs) : Int := match wordsU.findIdx? (fun x => decide (x = s)) with
 | some k => k
 | none => 0
theorem word_out {z : Int} (h : z < 0 ∨ 8 ≤ z) : wordU z = [] := by
 unfold wordU
 rcases h with h | h
 ·
  rw [if_pos h]
 ·
  rw [if_neg (by omega), List.getElem?_eq_none (by show 8 ≤ _; omega)]
theorem state_at {s : ByteArray} {k : Nat} {x : Bs} (hk : wordsU[k]? = some x) (h : s.data.toList = x) (hb : ∀ (j : Nat) y, j < k → wordsU[j]? = some y → y ≠ s.data.toList) : stateU s.data.toList = k := by
 unfold stateU
 have : wordsU.findIdx? (fun x => decide (x = s.data.toList)) = some k := by
  rw [List.findIdx?_eq_some_iff_getElem]
  obtain ⟨hl, e⟩ := List.getElem?_eq_some_iff.1 hk
  exact ⟨hl, by rw [e]; simp [h], fun j hj => by simpa using hb j _ hj (List.getElem?_eq_getElem (by omega))⟩
 rw [this]
theorem state_no {s : ByteArray} (hb : ∀ (j : Nat) y, j < 8 → wordsU[j]? = some y → y ≠ s.data.toList) : stateU s.data.toList = 0 := by
 unfold stateU
 have : wordsU.findIdx? (fun x => decide (x = s.data.toList)) = none := by
  rw [List.findIdx?_eq_none_iff]
  intro y hy
  obtain ⟨j, hj⟩ := List.mem_iff_getElem?.1 hy
  have := hb j y (List.getElem?_eq_some_iff.1 hj).1 hj
  simpa using this
 rw [this]
theorem word_any (z : Int) (w : World) (hL : LaidU w) : Calls Tryz.prog 42 #[.int .i64 z] w fun e w' => e = .returned (.string (bsT (wordU z))) ∧ Below w.heap.size w w' := by
 by_cases hz : z < 0 ∨ 8 ≤ z
 ·
  rw [word_out hz]
  clear hL
  rcases hz with hz | hz
  all_goals
   go_enter Tryz.func42, Tryz.ntmps42
   go_wp2
   go_ret
   exact ⟨rfl, Below.refl _ _⟩
 ·
  have h8 : z = 0 ∨ z = 1 ∨ z = 2 ∨ z = 3 ∨ z = 4 ∨ z = 5 ∨ z = 6 ∨ z = 7 := by omega
  have c0 : w.cell? ⟨0, 0, none⟩ = some (.string (⟨#[]⟩ : ByteArray)) := hL.ws 0 _ rfl
  have c1 : w.cell? ⟨0, 1, none⟩ = some (.string (⟨#[99, 111, 110, 102, 105, 103, 45, 102, 105, 108, 101, 115]⟩ : ByteArray)) := hL.ws 1 _ rfl
  have c2 : w.cell? ⟨0, 2, none⟩ = some (.string (⟨#[104, 97, 108, 102, 45, 105, 110, 115, 116, 97, 108, 108, 101, 100]⟩ : ByteArray)) := hL.ws 2 _ rfl
  have c3 : w.cell? ⟨0, 3, none⟩ = some (.string (⟨#[117, 110, 112, 97, 99, 107, 101, 100]⟩ : ByteArray)) := hL.ws 3 _ rfl
  have c4 : w.cell? ⟨0, 4, none⟩ = some (.string (⟨#[104, 97, 108, 102, 45, 99, 111, 110, 102, 105, 103, 117, 114, 101, 100]⟩ : ByteArray)) := hL.ws 4 _ rfl
  have c5 : w.cell? ⟨0, 5, none⟩ = some (.string (⟨#[116, 114, 105, 103, 103, 101, 114, 115, 45, 97, 119, 97, 105, 116, 101, 100]⟩ : ByteArray)) := hL.ws 5 _ rfl
  have c6 : w.cell? ⟨0, 6, none⟩ = some (.string (⟨#[116, 114, 105, 103, 103, 101, 114, 115, 45, 112, 101, 110, 100, 105, 110, 103]⟩ : ByteArray)) := hL.ws 6 _ rfl
  have c7 : w.cell? ⟨0, 7, none⟩ = some (.string (⟨#[105, 110, 115, 116, 97, 108, 108, 101, 100]⟩ : ByteArray)) := hL.ws 7 _ rfl
  clear hL hz
  rcases h8 with rfl | rfl | rfl | rfl | rfl | rfl | rfl | rfl
  all_goals
   go_enter Tryz.func42, Tryz.ntmps42
   go_wp2
   go_ret
   exact ⟨rfl, Below.refl _ _⟩
theorem word_ref (z : Int) (w : World) : Calls Tryz.prog 19 #[.int .i64 z] w fun e w' => e = .returned (.string (bsT (wordU z))) ∧ w' = w := by
 by_cases hz : z < 1 ∨ 8 ≤ z
 ·
  have hw : wordU z = [] := by
   by_cases h0 : z = 0
   ·
    rw [h0]; rfl
   ·
    exact word_out (by omega)
  rw [hw]
  rcases hz with hz | hz
  all_goals
   go_enter Tryz.func19, Tryz.ntmps19
   go_wp2
   go_ret
   exact ⟨rfl, rfl⟩
 ·
  have h8 : z = 1 ∨ z = 2 ∨ z = 3 ∨ z = 4 ∨ z = 5 ∨ z = 6 ∨ z = 7 := by omega
  clear hz
  rcases h8 with rfl | rfl | rfl | rfl | rfl | rfl | rfl
  all_goals
   go_enter Tryz.func19, Tryz.ntmps19
   go_wp2
   go_ret
   exact ⟨rfl, rfl⟩
theorem state_any (s : ByteArray) (w : World) (hL : LaidU w) : Calls Tryz.prog 71 #[.string s] w fun e w' => e = .returned (.int .i64 (stateU s.data.toList)) ∧ Below w.heap.size w w' := by
 have c0 : w.cell? ⟨0, 0, none⟩ = some (.string (⟨#[]⟩ : ByteArray)) := hL.ws 0 _ rfl
 have c1 : w.cell? ⟨0, 1, none⟩ = some (.string (⟨#[99, 111, 110, 102, 105, 103, 45, 102, 105, 108, 101, 115]⟩ : ByteArray)) := hL.ws 1 _ rfl
 have c2 : w.cell? ⟨0, 2, none⟩ = some (.string (⟨#[104, 97, 108, 102, 45, 105, 110, 115, 116, 97, 108, 108, 101, 100]⟩ : ByteArray)) := hL.ws 2 _ rfl
 have c3 : w.cell? ⟨0, 3, none⟩ = some (.string (⟨#[117, 110, 112, 97, 99, 107, 101, 100]⟩ : ByteArray)) := hL.ws 3 _ rfl
 have c4 : w.cell? ⟨0, 4, none⟩ = some (.string (⟨#[104, 97, 108, 102, 45, 99, 111, 110, 102, 105, 103, 117, 114, 101, 100]⟩ : ByteArray)) := hL.ws 4 _ rfl
 have c5 : w.cell? ⟨0, 5, none⟩ = some (.string (⟨#[116, 114, 105, 103, 103, 101, 114, 115, 45, 97, 119, 97, 105, 116, 101, 100]⟩ : ByteArray)) := hL.ws 5 _ rfl
 have c6 : w.cell? ⟨0, 6, none⟩ = some (.string (⟨#[116, 114, 105, 103, 103, 101, 114, 115, 45, 112, 101, 110, 100, 105, 110, 103]⟩ : ByteArray)) := hL.ws 6 _ rfl
 have c7 : w.cell? ⟨0, 7, none⟩ = some (.string (⟨#[105, 110, 115, 116, 97, 108, 108, 101, 100]⟩ : ByteArray)) := hL.ws 7 _ rfl
 have i0 : ∀ w, (Instr.index 133 (.agg #[.string (⟨#[]⟩ : ByteArray), .string (⟨#[99, 111, 110, 102, 105, 103, 45, 102, 105, 108, 101, 115]⟩ : ByteArray), .string (⟨#[104, 97, 108, 102, 45, 105, 110, 115, 116, 97, 108, 108, 101, 100]⟩ : ByteArray), .string (⟨#[117, 110, 112, 97, 99, 107, 101, 100]⟩ : ByteArray), .string (⟨#[104, 97, 108, 102, 45, 99, 111, 110, 102, 105, 103, 117, 114, 101, 100]⟩ : ByteArray), .string (⟨#[116, 114, 105, 103, 103, 101, 114, 115, 45, 97, 119, 97, 105, 116, 101, 100]⟩ : ByteArray), .string (⟨#[116, 114, 105, 103, 103, 101, 114, 115, 45, 112, 101, 110, 100, 105, 110, 103]⟩ : ByteArray), .string (⟨#[105, 110, 115, 116, 97, 108, 108, 101, 100]⟩ : ByteArray)]) (.int .i64 0)).run Tryz.prog w = .ok (.string (⟨#[]⟩ : ByteArray)) w := fun _ => by kernel_rfl
 have i1 : ∀ w, (Instr.index 133 (.agg #[.string (⟨#[]⟩ : ByteArray), .string (⟨#[99, 111, 110, 102, 105, 103, 45, 102, 105, 108, 101, 115]⟩ : ByteArray), .string (⟨#[104, 97, 108, 102, 45, 105, 110, 115, 116, 97, 108, 108, 101, 100]⟩ : ByteArray), .string (⟨#[117, 110, 112, 97, 99, 107, 101, 100]⟩ : ByteArray), .string (⟨#[104, 97, 108, 102, 45, 99, 111, 110, 102, 105, 103, 117, 114, 101, 100]⟩ : ByteArray), .string (⟨#[116, 114, 105, 103, 103, 101, 114, 115, 45, 97, 119, 97, 105, 116, 101, 100]⟩ : ByteArray), .string (⟨#[116, 114, 105, 103, 103, 101, 114, 115, 45, 112, 101, 110, 100, 105, 110, 103]⟩ : ByteArray), .string (⟨#[105, 110, 115, 116, 97, 108, 108, 101, 100]⟩ : ByteArray)]) (.int .i64 1)).run Tryz.prog w = .ok (.string (⟨#[99, 111, 110, 102, 105, 103, 45, 102, 105, 108, 101, 115]⟩ : ByteArray)) w := fun _ => by kernel_rfl
 have i2 : ∀ w, (Instr.index 133 (.agg #[.string (⟨#[]⟩ : ByteArray), .string (⟨#[99, 111, 110, 102, 105, 103, 45, 102, 105, 108, 101, 115]⟩ : ByteArray), .string (⟨#[104, 97, 108, 102, 45, 105, 110, 115, 116, 97, 108, 108, 101, 100]⟩ : ByteArray), .string (⟨#[117, 110, 112, 97, 99, 107, 101, 100]⟩ : ByteArray), .string (⟨#[104, 97, 108, 102, 45, 99, 111, 110, 102, 105, 103, 117, 114, 101, 100]⟩ : ByteArray), .string (⟨#[116, 114, 105, 103, 103, 101, 114, 115, 45, 97, 119, 97, 105, 116, 101, 100]⟩ : ByteArray), .string (⟨#[116, 114, 105, 103, 103, 101, 114, 115, 45, 112, 101, 110, 100, 105, 110, 103]⟩ : ByteArray), .string (⟨#[105, 110, 115, 116, 97, 108, 108, 101, 100]⟩ : ByteArray)]) (.int .i64 2)).run Tryz.prog w = .ok (.string (⟨#[104, 97, 108, 102, 45, 105, 110, 115, 116, 97, 108, 108, 101, 100]⟩ : ByteArray)) w := fun _ => by kernel_rfl
 have i3 : ∀ w, (Instr.index 133 (.agg #[.string (⟨#[]⟩ : ByteArray), .string (⟨#[99, 111, 110, 102, 105, 103, 45, 102, 105, 108, 101, 115]⟩ : ByteArray), .string (⟨#[104, 97, 108, 102, 45, 105, 110, 115, 116, 97, 108, 108, 101, 100]⟩ : ByteArray), .string (⟨#[117, 110, 112, 97, 99, 107, 101, 100]⟩ : ByteArray), .string (⟨#[104, 97, 108, 102, 45, 99, 111, 110, 102, 105, 103, 117, 114, 101, 100]⟩ : ByteArray), .string (⟨#[116, 114, 105, 103, 103, 101, 114, 115, 45, 97, 119, 97, 105, 116, 101, 100]⟩ : ByteArray), .string (⟨#[116, 114, 105, 103, 103, 101, 114, 115, 45, 112, 101, 110, 100, 105, 110, 103]⟩ : ByteArray), .string (⟨#[105, 110, 115, 116, 97, 108, 108, 101, 100]⟩ : ByteArray)]) (.int .i64 3)).run Tryz.prog w = .ok (.string (⟨#[117, 110, 112, 97, 99, 107, 101, 100]⟩ : ByteArray)) w := fun _ => by kernel_rfl
 have i4 : ∀ w, (Instr.index 133 (.agg #[.string (⟨#[]⟩ : ByteArray), .string (⟨#[99, 111, 110, 102, 105, 103, 45, 102, 105, 108, 101, 115]⟩ : ByteArray), .string (⟨#[104, 97, 108, 102, 45, 105, 110, 115, 116, 97, 108, 108, 101, 100]⟩ : ByteArray), .string (⟨#[117, 110, 112, 97, 99, 107, 101, 100]⟩ : ByteArray), .string (⟨#[104, 97, 108, 102, 45, 99, 111, 110, 102, 105, 103, 117, 114, 101, 100]⟩ : ByteArray), .string (⟨#[116, 114, 105, 103, 103, 101, 114, 115, 45, 97, 119, 97, 105, 116, 101, 100]⟩ : ByteArray), .string (⟨#[116, 114, 105, 103, 103, 101, 114, 115, 45, 112, 101, 110, 100, 105, 110, 103]⟩ : ByteArray), .string (⟨#[105, 110, 115, 116, 97, 108, 108, 101, 100]⟩ : ByteArray)]) (.int .i64 4)).run Tryz.prog w = .ok (.string (⟨#[104, 97, 108, 102, 45, 99, 111, 110, 102, 105, 103, 117, 114, 101, 100]⟩ : ByteArray)) w := fun _ => by kernel_rfl
 have i5 : ∀ w, (Instr.index 133 (.agg #[.string (⟨#[]⟩ : ByteArray), .string (⟨#[99, 111, 110, 102, 105, 103, 45, 102, 105, 108, 101, 115]⟩ : ByteArray), .string (⟨#[104, 97, 108, 102, 45, 105, 110, 115, 116, 97, 108, 108, 101, 100]⟩ : ByteArray), .string (⟨#[117, 110, 112, 97, 99, 107, 101, 100]⟩ : ByteArray), .string (⟨#[104, 97, 108, 102, 45, 99, 111, 110, 102, 105, 103, 117, 114, 101, 100]⟩ : ByteArray), .string (⟨#[116, 114, 105, 103, 103, 101, 114, 115, 45, 97, 119, 97, 105, 116, 101, 100]⟩ : ByteArray), .string (⟨#[116, 114, 105, 103, 103, 101, 114, 115, 45, 112, 101, 110, 100, 105, 110, 103]⟩ : ByteArray), .string (⟨#[105, 110, 115, 116, 97, 108, 108, 101, 100]⟩ : ByteArray)]) (.int .i64 5)).run Tryz.prog w = .ok (.string (⟨#[116, 114, 105, 103, 103, 101, 114, 115, 45, 97, 119, 97, 105, 116, 101, 100]⟩ : ByteArray)) w := fun _ => by kernel_rfl
 have i6 : ∀ w, (Instr.index 133 (.agg #[.string (⟨#[]⟩ : ByteArray), .string (⟨#[99, 111, 110, 102, 105, 103, 45, 102, 105, 108, 101, 115]⟩ : ByteArray), .string (⟨#[104, 97, 108, 102, 45, 105, 110, 115, 116, 97, 108, 108, 101, 100]⟩ : ByteArray), .string (⟨#[117, 110, 112, 97, 99, 107, 101, 100]⟩ : ByteArray), .string (⟨#[104, 97, 108, 102, 45, 99, 111, 110, 102, 105, 103, 117, 114, 101, 100]⟩ : ByteArray), .string (⟨#[116, 114, 105, 103, 103, 101, 114, 115, 45, 97, 119, 97, 105, 116, 101, 100]⟩ : ByteArray), .string (⟨#[116, 114, 105, 103, 103, 101, 114, 115, 45, 112, 101, 110, 100, 105, 110, 103]⟩ : ByteArray), .string (⟨#[105, 110, 115, 116, 97, 108, 108, 101, 100]⟩ : ByteArray)]) (.int .i64 6)).run Tryz.prog w = .ok (.string (⟨#[116, 114, 105, 103, 103, 101, 114, 115, 45, 112, 101, 110, 100, 105, 110, 103]⟩ : ByteArray)) w := fun _ => by kernel_rfl
 have i7 : ∀ w, (Instr.index 133 (.agg #[.string (⟨#[]⟩ : ByteArray), .string (⟨#[99, 111, 110, 102, 105, 103, 45, 102, 105, 108, 101, 115]⟩ : ByteArray), .string (⟨#[104, 97, 108, 102, 45, 105, 110, 115, 116, 97, 108, 108, 101, 100]⟩ : ByteArray), .string (⟨#[117, 110, 112, 97, 99, 107, 101, 100]⟩ : ByteArray), .string (⟨#[104, 97, 108, 102, 45, 99, 111, 110, 102, 105, 103, 117, 114, 101, 100]⟩ : ByteArray), .string (⟨#[116, 114, 105, 103, 103, 101, 114, 115, 45, 97, 119, 97, 105, 116, 101, 100]⟩ : ByteArray), .string (⟨#[116, 114, 105, 103, 103, 101, 114, 115, 45, 112, 101, 110, 100, 105, 110, 103]⟩ : ByteArray), .string (⟨#[105, 110, 115, 116, 97, 108, 108, 101, 100]⟩ : ByteArray)]) (.int .i64 7)).run Tryz.prog w = .ok (.string (⟨#[105, 110, 115, 116, 97, 108, 108, 101, 100]⟩ : ByteArray)) w := fun _ => by kernel_rfl
 clear hL
 have HY : Hid (∀ (k : Nat) x, wordsU[k]? = some x → s.data.toList = x → (∀ (j : Nat) y, j < k → wordsU[j]? = some y → y ≠ s.data.toList) → stateU s.data.toList = k) := Lib.hid (fun k x hk h hb => state_at hk h hb)
 have HN : Hid ((∀ (j : Nat) y, j < 8 → wordsU[j]? = some y → y ≠ s.data.toList) → stateU s.data.toList = 0) := Lib.hid (fun hb => state_no hb)
 generalize stateU s.data.toList = Z at *
 go_enter Tryz.func71, Tryz.ntmps71
 go_wp2
 go_loopw [6] (fun i wr => ∃ k : Nat, k ≤ 8 ∧ i = .int .i64 k ∧ Hid (∀ (j : Nat) y, j < k → wordsU[j]? = some y → y ≠ s.data.toList) ∧ Hid (wr = w)) (fun i _ => 8 - (intOf i).toNat)
 case atStart => exact ⟨0, by omega, rfl, Lib.hid (fun j y hj => by omega), Lib.hid rfl⟩
 case round =>
  obtain ⟨k, hk, rfl, H, HW⟩ := hrel
  obtain rfl := HW.out
  have h8 : k = 0 ∨ k = 1 ∨ k = 2 ∨ k = 3 ∨ k = 4 ∨ k = 5 ∨ k = 6 ∨ k = 7 ∨ k = 8 := by omega
  clear hk
  rcases h8 with rfl | rfl | rfl | rfl | rfl | rfl | rfl | rfl | rfl
  ·
   by_cases hs : (⟨#[]⟩ : ByteArray) = s
   ·
    have hz := HY.out 0 _ rfl (by rw [← hs]) H.out
    clear HY HN H
    subst hs
    go_wp2
    go_ret
    exact ⟨by first | rfl | (rw [hz]; rfl), Below.refl _ _⟩
   ·
    have H' : Hid (∀ (j : Nat) y, j < 0 + 1 → wordsU[j]? = some y → y ≠ s.data.toList) := Lib.hid (fun j y hj hy => by
     by_cases h : j < 0
     ·
      exact H.out j y h hy
     ·
      obtain rfl : j = 0 := by omega
      cases hy
      exact fun h => hs (strOf h.symm).symm)
    have hb : ((⟨#[]⟩ : ByteArray).toList == s.toList) = false := by rw [eqT]; exact decide_eq_false (fun h => hs ((strOf h).trans (strOf rfl).symm))
    clear HY HN H hs
    generalize (⟨#[]⟩ : ByteArray) = L at *
    go_wp2
    go_roundw
    case rel => exact ⟨1, by omega, rfl, H', Lib.hid (by simp)⟩
    case measure => simp [intOf]
  ·
   by_cases hs : (⟨#[99, 111, 110, 102, 105, 103, 45, 102, 105, 108, 101, 115]⟩ : ByteArray) = s
   ·
    have hz := HY.out 1 _ rfl (by rw [← hs]) H.out
    clear HY HN H
    subst hs
    go_wp2
    go_ret
    exact ⟨by first | rfl | (rw [hz]; rfl), Below.refl _ _⟩
   ·
    have H' : Hid (∀ (j : Nat) y, j < 1 + 1 → wordsU[j]? = some y → y ≠ s.data.toList) := Lib.hid (fun j y hj hy => by
     by_cases h : j < 1
     ·
      exact H.out j y h hy
     ·
      obtain rfl : j = 1 := by omega
      cases hy
      exact fun h => hs (strOf h.symm).symm)
    have hb : ((⟨#[99, 111, 110, 102, 105, 103, 45, 102, 105, 108, 101, 115]⟩ : ByteArray).toList == s.toList) = false := by rw [eqT]; exact decide_eq_false (fun h => hs ((strOf h).trans (strOf rfl).symm))
    clear HY HN H hs
    generalize (⟨#[99, 111, 110, 102, 105, 103, 45, 102, 105, 108, 101, 115]⟩ : ByteArray) = L at *
    go_wp2
    go_roundw
    case rel => exact ⟨2, by omega, rfl, H', Lib.hid (by simp)⟩
    case measure => simp [intOf]
  ·
   by_cases hs : (⟨#[104, 97, 108, 102, 45, 105, 110, 115, 116, 97, 108, 108, 101, 100]⟩ : ByteArray) = s
   ·
    have hz := HY.out 2 _ rfl (by rw [← hs]) H.out
    clear HY HN H
    subst hs
    go_wp2
    go_ret
    exact ⟨by first | rfl | (rw [hz]; rfl), Below.refl _ _⟩
   ·
    have H' : Hid (∀ (j : Nat) y, j < 2 + 1 → wordsU[j]? = some y → y ≠ s.data.toList) := Lib.hid (fun j y hj hy => by
     by_cases h : j < 2
     ·
      exact H.out j y h hy
     ·
      obtain rfl : j = 2 := by omega
      cases hy
      exact fun h => hs (strOf h.symm).symm)
    have hb : ((⟨#[104, 97, 108, 102, 45, 105, 110, 115, 116, 97, 108, 108, 101, 100]⟩ : ByteArray).toList == s.toList) = false := by rw [eqT]; exact decide_eq_false (fun h => hs ((strOf h).trans (strOf rfl).symm))
    clear HY HN H hs
    generalize (⟨#[104, 97, 108, 102, 45, 105, 110, 115, 116, 97, 108, 108, 101, 100]⟩ : ByteArray) = L at *
    go_wp2
    go_roundw
    case rel => exact ⟨3, by omega, rfl, H', Lib.hid (by simp)⟩
    case measure => simp [intOf]
  ·
   by_cases hs : (⟨#[117, 110, 112, 97, 99, 107, 101, 100]⟩ : ByteArray) = s
   ·
    have hz := HY.out 3 _ rfl (by rw [← hs]) H.out
    clear HY HN H
    subst hs
    go_wp2
    go_ret
    exact ⟨by first | rfl | (rw [hz]; rfl), Below.refl _ _⟩
   ·
    have H' : Hid (∀ (j : Nat) y, j < 3 + 1 → wordsU[j]? = some y → y ≠ s.data.toList) := Lib.hid (fun j y hj hy => by
     by_cases h : j < 3
     ·
      exact H.out j y h hy
     ·
      obtain rfl : j = 3 := by omega
      cases hy
      exact fun h => hs (strOf h.symm).symm)
    have hb : ((⟨#[117, 110, 112, 97, 99, 107, 101, 100]⟩ : ByteArray).toList == s.toList) = false := by rw [eqT]; exact decide_eq_false (fun h => hs ((strOf h).trans (strOf rfl).symm))
    clear HY HN H hs
    generalize (⟨#[117, 110, 112, 97, 99, 107, 101, 100]⟩ : ByteArray) = L at *
    go_wp2
    go_roundw
    case rel => exact ⟨4, by omega, rfl, H', Lib.hid (by simp)⟩
    case measure => simp [intOf]
  ·
   by_cases hs : (⟨#[104, 97, 108, 102, 45, 99, 111, 110, 102, 105, 103, 117, 114, 101, 100]⟩ : ByteArray) = s
   ·
    have hz := HY.out 4 _ rfl (by rw [← hs]) H.out
    clear HY HN H
    subst hs
    go_wp2
    go_ret
    exact ⟨by first | rfl | (rw [hz]; rfl), Below.refl _ _⟩
   ·
    have H' : Hid (∀ (j : Nat) y, j < 4 + 1 → wordsU[j]? = some y → y ≠ s.data.toList) := Lib.hid (fun j y hj hy => by
     by_cases h : j < 4
     ·
      exact H.out j y h hy
     ·
      obtain rfl : j = 4 := by omega
      cases hy
      exact fun h => hs (strOf h.symm).symm)
    have hb : ((⟨#[104, 97, 108, 102, 45, 99, 111, 110, 102, 105, 103, 117, 114, 101, 100]⟩ : ByteArray).toList == s.toList) = false := by rw [eqT]; exact decide_eq_false (fun h => hs ((strOf h).trans (strOf rfl).symm))
    clear HY HN H hs
    generalize (⟨#[104, 97, 108, 102, 45, 99, 111, 110, 102, 105, 103, 117, 114, 101, 100]⟩ : ByteArray) = L at *
    go_wp2
    go_roundw
    case rel => exact ⟨5, by omega, rfl, H', Lib.hid (by simp)⟩
    case measure => simp [intOf]
  ·
   by_cases hs : (⟨#[116, 114, 105, 103, 103, 101, 114, 115, 45, 97, 119, 97, 105, 116, 101, 100]⟩ : ByteArray) = s
   ·
    have hz := HY.out 5 _ rfl (by rw [← hs]) H.out
    clear HY HN H
    subst hs
    go_wp2
    go_ret
    exact ⟨by first | rfl | (rw [hz]; rfl), Below.refl _ _⟩
   ·
    have H' : Hid (∀ (j : Nat) y, j < 5 + 1 → wordsU[j]? = some y → y ≠ s.data.toList) := Lib.hid (fun j y hj hy => by
     by_cases h : j < 5
     ·
      exact H.out j y h hy
     ·
      obtain rfl : j = 5 := by omega
      cases hy
      exact fun h => hs (strOf h.symm).symm)
    have hb : ((⟨#[116, 114, 105, 103, 103, 101, 114, 115, 45, 97, 119, 97, 105, 116, 101, 100]⟩ : ByteArray).toList == s.toList) = false := by rw [eqT]; exact decide_eq_false (fun h => hs ((strOf h).trans (strOf rfl).symm))
    clear HY HN H hs
    generalize (⟨#[116, 114, 105, 103, 103, 101, 114, 115, 45, 97, 119, 97, 105, 116, 101, 100]⟩ : ByteArray) = L at *
    go_wp2
    go_roundw
    case rel => exact ⟨6, by omega, rfl, H', Lib.hid (by simp)⟩
    case measure => simp [intOf]
  ·
   by_cases hs : (⟨#[116, 114, 105, 103, 103, 101, 114, 115, 45, 112, 101, 110, 100, 105, 110, 103]⟩ : ByteArray) = s
   ·
    have hz := HY.out 6 _ rfl (by rw [← hs]) H.out
    clear HY HN H
    subst hs
    go_wp2
    go_ret
    exact ⟨by first | rfl | (rw [hz]; rfl), Below.refl _ _⟩
   ·
    have H' : Hid (∀ (j : Nat) y, j < 6 + 1 → wordsU[j]? = some y → y ≠ s.data.toList) := Lib.hid (fun j y hj hy => by
     by_cases h : j < 6
     ·
      exact H.out j y h hy
     ·
      obtain rfl : j = 6 := by omega
      cases hy
      exact fun h => hs (strOf h.symm).symm)
    have hb : ((⟨#[116, 114, 105, 103, 103, 101, 114, 115, 45, 112, 101, 110, 100, 105, 110, 103]⟩ : ByteArray).toList == s.toList) = false := by rw [eqT]; exact decide_eq_false (fun h => hs ((strOf h).trans (strOf rfl).symm))
    clear HY HN H hs
    generalize (⟨#[116, 114, 105, 103, 103, 101, 114, 115, 45, 112, 101, 110, 100, 105, 110, 103]⟩ : ByteArray) = L at *
    go_wp2
    go_roundw
    case rel => exact ⟨7, by omega, rfl, H', Lib.hid (by simp)⟩
    case measure => simp [intOf]
  ·
   by_cases hs : (⟨#[105, 110, 115, 116, 97, 108, 108, 101, 100]⟩ : ByteArray) = s
   ·
    have hz := HY.out 7 _ rfl (by rw [← hs]) H.out
    clear HY HN H
    subst hs
    go_wp2
    go_ret
    exact ⟨by first | rfl | (rw [hz]; rfl), Below.refl _ _⟩
   ·
    have H' : Hid (∀ (j : Nat) y, j < 7 + 1 → wordsU[j]? = some y → y ≠ s.data.toList) := Lib.hid (fun j y hj hy => by
     by_cases h : j < 7
     ·
      exact H.out j y h hy
     ·
      obtain rfl : j = 7 := by omega
      cases hy
      exact fun h => hs (strOf h.symm).symm)
    have hb : ((⟨#[105, 110, 115, 116, 97, 108, 108, 101, 100]⟩ : ByteArray).toList == s.toList) = false := by rw [eqT]; exact decide_eq_false (fun h => hs ((strOf h).trans (strOf rfl).symm))
    clear HY HN H hs
    generalize (⟨#[105, 110, 115, 116, 97, 108, 108, 101, 100]⟩ : ByteArray) = L at *
    go_wp2
    go_roundw
    case rel => exact ⟨8, by omega, rfl, H', Lib.hid (by simp)⟩
    case measure => simp [intOf]
  ·
   have hz := HN.out H.out
   clear HY HN H
   go_wp2
   go_ret
   exact ⟨by first | rfl | (rw [hz]; rfl), Below.refl _ _⟩
end Go.Proofs.YtkbkaeefdhkgdaaGreatDoor
