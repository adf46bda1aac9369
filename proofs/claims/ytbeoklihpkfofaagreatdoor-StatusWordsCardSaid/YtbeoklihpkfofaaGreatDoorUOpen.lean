/-
  The words of states, by the program and by the reference; the state that is settled; nothing old turns. Condition of the program's: LaidU. The frame of the records' cards: what the rows list, laid; the lift.
-/
import Derived.Test.YtbeoklihpkfofaaGreatDoorUTrig
import Derived.Test.YtbeoklihpkfofaaGreatDoorQPParse
import Derived.Test.YtbeoklihpkfofaaGreatDoorShFrame
import Derived.FnData
import Derived.Lib.SmallJoins
import Derived.Lib.LaidTab
import Derived.Lay
import Derived.LaidOnce
import Derived.MakeChecks
import Derived.Handed
import Derived.Stop.LaidErr
import Derived.Deep.Strs
import Derived.ChangeArms
import Derived.Deep.Slices
namespace Go.Proofs.YtbeoklihpkfofaaGreatDoor
open Go.RowKit
/-- The words of the states. -/
def wordsU : List Bs := [[], [99, 111, 110, 102, 105, 103, 45, 102, 105, 108, 101, 115], [104, 97, 108, 102, 45, 105, 110, 115, 116, 97, 108, 108, 101, 100], [117, 110, 112, 97, 99, 107, 101, 100], [104, 97, 108, 102, 45, 99, 111, 110, 102, 105, 103, 117, 114, 101, 100], [116, 114, 105, 103, 103, 101, 114, 115, 45, 97, 119, 97, 105, 116, 101, 100], [116, 114, 105, 103, 103, 101, 114, 115, 45, 112, 101, 110, 100, 105, 110, 103], [105, 110, 115, 116, 97, 108, 108, 101, 100]]
/-- What the program lays, of which status speaks. -/
structure LaidU (w : World) : Prop where
  q : LaidQ w
  p : LaidP w
  ws : ∀ (k : Nat) (x : Bs), wordsU[k]? = some x → w.cell? ⟨0, k, none⟩ = some (.string (bsT x))
theorem LaidU.on {w w' : World} (h : LaidU w) (hb : Below w.heap.size w w') : LaidU w' :=
  ⟨h.q.on hb, h.p.on hb, fun k x hx => (hb.cell (World.block_lt_of_cell? w _ (h.ws k x hx))).trans (h.ws k x hx)⟩
def wordU (z : Int) : Bs := if z < 0 then [] else match wordsU[z.toNat]? with
  | some x => x
  | none => []
def stateU (s : Bs) : Int := match wordsU.findIdx? (fun x => decide (x = s)) with
  | some k => k
  | none => 0
theorem word_out {z : Int} (h : z < 0 ∨ 8 ≤ z) : wordU z = [] := by
  unfold wordU
  rcases h with h | h
  · rw [if_pos h]
  · rw [if_neg (by omega), List.getElem?_eq_none (by show 8 ≤ _; omega)]
theorem state_at {s : ByteArray} {k : Nat} {x : Bs} (hk : wordsU[k]? = some x) (h : s.data.toList = x) (hb : ∀ (j : Nat) y, j < k → wordsU[j]? = some y → y ≠ s.data.toList) : stateU s.data.toList = k := by
  unfold stateU
  have : wordsU.findIdx? (fun x => decide (x = s.data.toList)) = some k := by
    rw [List.findIdx?_eq_some_iff_getElem]
    obtain ⟨hl, e⟩ := List.getElem?_eq_some_iff.1 hk
    exact ⟨hl, by rw [e]; simp [h], fun j hj => by simpa using hb j _ hj (List.getElem?_eq_getElem (by omega))⟩
  rw [this]
theorem state_no {s : ByteArray} (hb : ∀ (j : Nat) y, j < 8 → wordsU[j]? = some y → y ≠ s.data.toList) : stateU s.data.toList = 0 := by
  unfold stateU
  have : wordsU.findIdx? (fun x => decide (x = s.data.toList)) = none := by
    rw [List.findIdx?_eq_none_iff]
    intro y hy
    obtain ⟨j, hj⟩ := List.mem_iff_getElem?.1 hy
    have := hb j y (List.getElem?_eq_some_iff.1 hj).1 hj
    simpa using this
  rw [this]
set_option maxRecDepth 100000 in
set_option maxHeartbeats 4000000 in
theorem word_any (z : Int) (w : World) (hL : LaidU w) : Calls Tryz.prog 9 #[.int .i64 z] w fun e w' => e = .returned (.string (bsT (wordU z))) ∧ Below w.heap.size w w' := by
  by_cases hz : z < 0 ∨ 8 ≤ z
  · rw [word_out hz]
    clear hL
    rcases hz with hz | hz
    all_goals
      go_enter Tryz.func9, Tryz.ntmps9
      go_wp2
      go_ret
      exact ⟨rfl, Below.refl _ _⟩
  · have h8 : z = 0 ∨ z = 1 ∨ z = 2 ∨ z = 3 ∨ z = 4 ∨ z = 5 ∨ z = 6 ∨ z = 7 := by omega
    have c0 : w.cell? ⟨0, 0, none⟩ = some (.string (⟨#[]⟩ : ByteArray)) := hL.ws 0 _ rfl
    have c1 : w.cell? ⟨0, 1, none⟩ = some (.string (⟨#[99, 111, 110, 102, 105, 103, 45, 102, 105, 108, 101, 115]⟩ : ByteArray)) := hL.ws 1 _ rfl
    have c2 : w.cell? ⟨0, 2, none⟩ = some (.string (⟨#[104, 97, 108, 102, 45, 105, 110, 115, 116, 97, 108, 108, 101, 100]⟩ : ByteArray)) := hL.ws 2 _ rfl
    have c3 : w.cell? ⟨0, 3, none⟩ = some (.string (⟨#[117, 110, 112, 97, 99, 107, 101, 100]⟩ : ByteArray)) := hL.ws 3 _ rfl
    have c4 : w.cell? ⟨0, 4, none⟩ = some (.string (⟨#[104, 97, 108, 102, 45, 99, 111, 110, 102, 105, 103, 117, 114, 101, 100]⟩ : ByteArray)) := hL.ws 4 _ rfl
    have c5 : w.cell? ⟨0, 5, none⟩ = some (.string (⟨#[116, 114, 105, 103, 103, 101, 114, 115, 45, 97, 119, 97, 105, 116, 101, 100]⟩ : ByteArray)) := hL.ws 5 _ rfl
    have c6 : w.cell? ⟨0, 6, none⟩ = some (.string (⟨#[116, 114, 105, 103, 103, 101, 114, 115, 45, 112, 101, 110, 100, 105, 110, 103]⟩ : ByteArray)) := hL.ws 6 _ rfl
    have c7 : w.cell? ⟨0, 7, none⟩ = some (.string (⟨#[105, 110, 115, 116, 97, 108, 108, 101, 100]⟩ : ByteArray)) := hL.ws 7 _ rfl
    clear hL hz
    rcases h8 with rfl | rfl | rfl | rfl | rfl | rfl | rfl | rfl
    all_goals
      go_enter Tryz.func9, Tryz.ntmps9
      go_wp2
      go_ret
      exact ⟨rfl, Below.refl _ _⟩
set_option maxRecDepth 100000 in
set_option maxHeartbeats 4000000 in
theorem word_ref (z : Int) (w : World) : Calls Tryz.prog 10 #[.int .i64 z] w fun e w' => e = .returned (.string (bsT (wordU z))) ∧ w' = w := by
  by_cases hz : z < 1 ∨ 8 ≤ z
  · have hw : wordU z = [] := by
      by_cases h0 : z = 0
      · rw [h0]; rfl
      · exact word_out (by omega)
    rw [hw]
    rcases hz with hz | hz
    all_goals
      go_enter Tryz.func10, Tryz.ntmps10
      go_wp2
      go_ret
      exact ⟨rfl, rfl⟩
  · have h8 : z = 1 ∨ z = 2 ∨ z = 3 ∨ z = 4 ∨ z = 5 ∨ z = 6 ∨ z = 7 := by omega
    clear hz
    rcases h8 with rfl | rfl | rfl | rfl | rfl | rfl | rfl
    all_goals
      go_enter Tryz.func10, Tryz.ntmps10
      go_wp2
      go_ret
      exact ⟨rfl, rfl⟩
set_option maxRecDepth 100000 in
set_option maxHeartbeats 4000000 in
theorem state_any (s : ByteArray) (w : World) (hL : LaidU w) : Calls Tryz.prog 11 #[.string s] w fun e w' => e = .returned (.int .i64 (stateU s.data.toList)) ∧ Below w.heap.size w w' := by
  have c0 : w.cell? ⟨0, 0, none⟩ = some (.string (⟨#[]⟩ : ByteArray)) := hL.ws 0 _ rfl
  have c1 : w.cell? ⟨0, 1, none⟩ = some (.string (⟨#[99, 111, 110, 102, 105, 103, 45, 102, 105, 108, 101, 115]⟩ : ByteArray)) := hL.ws 1 _ rfl
  have c2 : w.cell? ⟨0, 2, none⟩ = some (.string (⟨#[104, 97, 108, 102, 45, 105, 110, 115, 116, 97, 108, 108, 101, 100]⟩ : ByteArray)) := hL.ws 2 _ rfl
  have c3 : w.cell? ⟨0, 3, none⟩ = some (.string (⟨#[117, 110, 112, 97, 99, 107, 101, 100]⟩ : ByteArray)) := hL.ws 3 _ rfl
  have c4 : w.cell? ⟨0, 4, none⟩ = some (.string (⟨#[104, 97, 108, 102, 45, 99, 111, 110, 102, 105, 103, 117, 114, 101, 100]⟩ : ByteArray)) := hL.ws 4 _ rfl
  have c5 : w.cell? ⟨0, 5, none⟩ = some (.string (⟨#[116, 114, 105, 103, 103, 101, 114, 115, 45, 97, 119, 97, 105, 116, 101, 100]⟩ : ByteArray)) := hL.ws 5 _ rfl
  have c6 : w.cell? ⟨0, 6, none⟩ = some (.string (⟨#[116, 114, 105, 103, 103, 101, 114, 115, 45, 112, 101, 110, 100, 105, 110, 103]⟩ : ByteArray)) := hL.ws 6 _ rfl
  have c7 : w.cell? ⟨0, 7, none⟩ = some (.string (⟨#[105, 110, 115, 116, 97, 108, 108, 101, 100]⟩ : ByteArray)) := hL.ws 7 _ rfl

  have i0 : ∀ w, (Instr.index 54 (.agg #[.string (⟨#[]⟩ : ByteArray), .string (⟨#[99, 111, 110, 102, 105, 103, 45, 102, 105, 108, 101, 115]⟩ : ByteArray), .string (⟨#[104, 97, 108, 102, 45, 105, 110, 115, 116, 97, 108, 108, 101, 100]⟩ : ByteArray), .string (⟨#[117, 110, 112, 97, 99, 107, 101, 100]⟩ : ByteArray), .string (⟨#[104, 97, 108, 102, 45, 99, 111, 110, 102, 105, 103, 117, 114, 101, 100]⟩ : ByteArray), .string (⟨#[116, 114, 105, 103, 103, 101, 114, 115, 45, 97, 119, 97, 105, 116, 101, 100]⟩ : ByteArray), .string (⟨#[116, 114, 105, 103, 103, 101, 114, 115, 45, 112, 101, 110, 100, 105, 110, 103]⟩ : ByteArray), .string (⟨#[105, 110, 115, 116, 97, 108, 108, 101, 100]⟩ : ByteArray)]) (.int .i64 0)).run Tryz.prog w = .ok (.string (⟨#[]⟩ : ByteArray)) w := fun _ => by kernel_rfl
  have i1 : ∀ w, (Instr.index 54 (.agg #[.string (⟨#[]⟩ : ByteArray), .string (⟨#[99, 111, 110, 102, 105, 103, 45, 102, 105, 108, 101, 115]⟩ : ByteArray), .string (⟨#[104, 97, 108, 102, 45, 105, 110, 115, 116, 97, 108, 108, 101, 100]⟩ : ByteArray), .string (⟨#[117, 110, 112, 97, 99, 107, 101, 100]⟩ : ByteArray), .string (⟨#[104, 97, 108, 102, 45, 99, 111, 110, 102, 105, 103, 117, 114, 101, 100]⟩ : ByteArray), .string (⟨#[116, 114, 105, 103, 103, 101, 114, 115, 45, 97, 119, 97, 105, 116, 101, 100]⟩ : ByteArray), .string (⟨#[116, 114, 105, 103, 103, 101, 114, 115, 45, 112, 101, 110, 100, 105, 110, 103]⟩ : ByteArray), .string (⟨#[105, 110, 115, 116, 97, 108, 108, 101, 100]⟩ : ByteArray)]) (.int .i64 1)).run Tryz.prog w = .ok (.string (⟨#[99, 111, 110, 102, 105, 103, 45, 102, 105, 108, 101, 115]⟩ : ByteArray)) w := fun _ => by kernel_rfl
  have i2 : ∀ w, (Instr.index 54 (.agg #[.string (⟨#[]⟩ : ByteArray), .string (⟨#[99, 111, 110, 102, 105, 103, 45, 102, 105, 108, 101, 115]⟩ : ByteArray), .string (⟨#[104, 97, 108, 102, 45, 105, 110, 115, 116, 97, 108, 108, 101, 100]⟩ : ByteArray), .string (⟨#[117, 110, 112, 97, 99, 107, 101, 100]⟩ : ByteArray), .string (⟨#[104, 97, 108, 102, 45, 99, 111, 110, 102, 105, 103, 117, 114, 101, 100]⟩ : ByteArray), .string (⟨#[116, 114, 105, 103, 103, 101, 114, 115, 45, 97, 119, 97, 105, 116, 101, 100]⟩ : ByteArray), .string (⟨#[116, 114, 105, 103, 103, 101, 114, 115, 45, 112, 101, 110, 100, 105, 110, 103]⟩ : ByteArray), .string (⟨#[105, 110, 115, 116, 97, 108, 108, 101, 100]⟩ : ByteArray)]) (.int .i64 2)).run Tryz.prog w = .ok (.string (⟨#[104, 97, 108, 102, 45, 105, 110, 115, 116, 97, 108, 108, 101, 100]⟩ : ByteArray)) w := fun _ => by kernel_rfl
  have i3 : ∀ w, (Instr.index 54 (.agg #[.string (⟨#[]⟩ : ByteArray), .string (⟨#[99, 111, 110, 102, 105, 103, 45, 102, 105, 108, 101, 115]⟩ : ByteArray), .string (⟨#[104, 97, 108, 102, 45, 105, 110, 115, 116, 97, 108, 108, 101, 100]⟩ : ByteArray), .string (⟨#[117, 110, 112, 97, 99, 107, 101, 100]⟩ : ByteArray), .string (⟨#[104, 97, 108, 102, 45, 99, 111, 110, 102, 105, 103, 117, 114, 101, 100]⟩ : ByteArray), .string (⟨#[116, 114, 105, 103, 103, 101, 114, 115, 45, 97, 119, 97, 105, 116, 101, 100]⟩ : ByteArray), .string (⟨#[116, 114, 105, 103, 103, 101, 114, 115, 45, 112, 101, 110, 100, 105, 110, 103]⟩ : ByteArray), .string (⟨#[105, 110, 115, 116, 97, 108, 108, 101, 100]⟩ : ByteArray)]) (.int .i64 3)).run Tryz.prog w = .ok (.string (⟨#[117, 110, 112, 97, 99, 107, 101, 100]⟩ : ByteArray)) w := fun _ => by kernel_rfl
  have i4 : ∀ w, (Instr.index 54 (.agg #[.string (⟨#[]⟩ : ByteArray), .string (⟨#[99, 111, 110, 102, 105, 103, 45, 102, 105, 108, 101, 115]⟩ : ByteArray), .string (⟨#[104, 97, 108, 102, 45, 105, 110, 115, 116, 97, 108, 108, 101, 100]⟩ : ByteArray), .string (⟨#[117, 110, 112, 97, 99, 107, 101, 100]⟩ : ByteArray), .string (⟨#[104, 97, 108, 102, 45, 99, 111, 110, 102, 105, 103, 117, 114, 101, 100]⟩ : ByteArray), .string (⟨#[116, 114, 105, 103, 103, 101, 114, 115, 45, 97, 119, 97, 105, 116, 101, 100]⟩ : ByteArray), .string (⟨#[116, 114, 105, 103, 103, 101, 114, 115, 45, 112, 101, 110, 100, 105, 110, 103]⟩ : ByteArray), .string (⟨#[105, 110, 115, 116, 97, 108, 108, 101, 100]⟩ : ByteArray)]) (.int .i64 4)).run Tryz.prog w = .ok (.string (⟨#[104, 97, 108, 102, 45, 99, 111, 110, 102, 105, 103, 117, 114, 101, 100]⟩ : ByteArray)) w := fun _ => by kernel_rfl
  have i5 : ∀ w, (Instr.index 54 (.agg #[.string (⟨#[]⟩ : ByteArray), .string (⟨#[99, 111, 110, 102, 105, 103, 45, 102, 105, 108, 101, 115]⟩ : ByteArray), .string (⟨#[104, 97, 108, 102, 45, 105, 110, 115, 116, 97, 108, 108, 101, 100]⟩ : ByteArray), .string (⟨#[117, 110, 112, 97, 99, 107, 101, 100]⟩ : ByteArray), .string (⟨#[104, 97, 108, 102, 45, 99, 111, 110, 102, 105, 103, 117, 114, 101, 100]⟩ : ByteArray), .string (⟨#[116, 114, 105, 103, 103, 101, 114, 115, 45, 97, 119, 97, 105, 116, 101, 100]⟩ : ByteArray), .string (⟨#[116, 114, 105, 103, 103, 101, 114, 115, 45, 112, 101, 110, 100, 105, 110, 103]⟩ : ByteArray), .string (⟨#[105, 110, 115, 116, 97, 108, 108, 101, 100]⟩ : ByteArray)]) (.int .i64 5)).run Tryz.prog w = .ok (.string (⟨#[116, 114, 105, 103, 103, 101, 114, 115, 45, 97, 119, 97, 105, 116, 101, 100]⟩ : ByteArray)) w := fun _ => by kernel_rfl
  have i6 : ∀ w, (Instr.index 54 (.agg #[.string (⟨#[]⟩ : ByteArray), .string (⟨#[99, 111, 110, 102, 105, 103, 45, 102, 105, 108, 101, 115]⟩ : ByteArray), .string (⟨#[104, 97, 108, 102, 45, 105, 110, 115, 116, 97, 108, 108, 101, 100]⟩ : ByteArray), .string (⟨#[117, 110, 112, 97, 99, 107, 101, 100]⟩ : ByteArray), .string (⟨#[104, 97, 108, 102, 45, 99, 111, 110, 102, 105, 103, 117, 114, 101, 100]⟩ : ByteArray), .string (⟨#[116, 114, 105, 103, 103, 101, 114, 115, 45, 97, 119, 97, 105, 116, 101, 100]⟩ : ByteArray), .string (⟨#[116, 114, 105, 103, 103, 101, 114, 115, 45, 112, 101, 110, 100, 105, 110, 103]⟩ : ByteArray), .string (⟨#[105, 110, 115, 116, 97, 108, 108, 101, 100]⟩ : ByteArray)]) (.int .i64 6)).run Tryz.prog w = .ok (.string (⟨#[116, 114, 105, 103, 103, 101, 114, 115, 45, 112, 101, 110, 100, 105, 110, 103]⟩ : ByteArray)) w := fun _ => by kernel_rfl
  have i7 : ∀ w, (Instr.index 54 (.agg #[.string (⟨#[]⟩ : ByteArray), .string (⟨#[99, 111, 110, 102, 105, 103, 45, 102, 105, 108, 101, 115]⟩ : ByteArray), .string (⟨#[104, 97, 108, 102, 45, 105, 110, 115, 116, 97, 108, 108, 101, 100]⟩ : ByteArray), .string (⟨#[117, 110, 112, 97, 99, 107, 101, 100]⟩ : ByteArray), .string (⟨#[104, 97, 108, 102, 45, 99, 111, 110, 102, 105, 103, 117, 114, 101, 100]⟩ : ByteArray), .string (⟨#[116, 114, 105, 103, 103, 101, 114, 115, 45, 97, 119, 97, 105, 116, 101, 100]⟩ : ByteArray), .string (⟨#[116, 114, 105, 103, 103, 101, 114, 115, 45, 112, 101, 110, 100, 105, 110, 103]⟩ : ByteArray), .string (⟨#[105, 110, 115, 116, 97, 108, 108, 101, 100]⟩ : ByteArray)]) (.int .i64 7)).run Tryz.prog w = .ok (.string (⟨#[105, 110, 115, 116, 97, 108, 108, 101, 100]⟩ : ByteArray)) w := fun _ => by kernel_rfl
  clear hL
  have HY : Hid (∀ (k : Nat) x, wordsU[k]? = some x → s.data.toList = x → (∀ (j : Nat) y, j < k → wordsU[j]? = some y → y ≠ s.data.toList) → stateU s.data.toList = k) := Lib.hid (fun k x hk h hb => state_at hk h hb)
  have HN : Hid ((∀ (j : Nat) y, j < 8 → wordsU[j]? = some y → y ≠ s.data.toList) → stateU s.data.toList = 0) := Lib.hid (fun hb => state_no hb)
  generalize stateU s.data.toList = Z at *
  go_enter Tryz.func11, Tryz.ntmps11
  go_wp2
  go_loopw [6] (fun i wr => ∃ k : Nat, k ≤ 8 ∧ i = .int .i64 k ∧ Hid (∀ (j : Nat) y, j < k → wordsU[j]? = some y → y ≠ s.data.toList) ∧ Hid (wr = w)) (fun i _ => 8 - (intOf i).toNat)
  case atStart => exact ⟨0, by omega, rfl, Lib.hid (fun j y hj => by omega), Lib.hid rfl⟩
  case round =>
    obtain ⟨k, hk, rfl, H, HW⟩ := hrel
    obtain rfl := HW.out
    have h8 : k = 0 ∨ k = 1 ∨ k = 2 ∨ k = 3 ∨ k = 4 ∨ k = 5 ∨ k = 6 ∨ k = 7 ∨ k = 8 := by omega
    clear hk
    rcases h8 with rfl | rfl | rfl | rfl | rfl | rfl | rfl | rfl | rfl
    · by_cases hs : (⟨#[]⟩ : ByteArray) = s
      · have hz := HY.out 0 _ rfl (by rw [← hs]) H.out
        clear HY HN H
        subst hs
        go_wp2
        go_ret
        exact ⟨by first | rfl | (rw [hz]; rfl), Below.refl _ _⟩
      · have H' : Hid (∀ (j : Nat) y, j < 0 + 1 → wordsU[j]? = some y → y ≠ s.data.toList) := Lib.hid (fun j y hj hy => by
          by_cases h : j < 0
          · exact H.out j y h hy
          · obtain rfl : j = 0 := by omega
            cases hy
            exact fun h => hs (strOf h.symm).symm)
        have hb : ((⟨#[]⟩ : ByteArray).toList == s.toList) = false := by rw [eqT]; exact decide_eq_false (fun h => hs ((strOf h).trans (strOf rfl).symm))
        clear HY HN H hs
        generalize (⟨#[]⟩ : ByteArray) = L at *
        go_wp2
        go_roundw
        case rel => exact ⟨1, by omega, rfl, H', Lib.hid (by simp)⟩
        case measure => simp [intOf]
    · by_cases hs : (⟨#[99, 111, 110, 102, 105, 103, 45, 102, 105, 108, 101, 115]⟩ : ByteArray) = s
      · have hz := HY.out 1 _ rfl (by rw [← hs]) H.out
        clear HY HN H
        subst hs
        go_wp2
        go_ret
        exact ⟨by first | rfl | (rw [hz]; rfl), Below.refl _ _⟩
      · have H' : Hid (∀ (j : Nat) y, j < 1 + 1 → wordsU[j]? = some y → y ≠ s.data.toList) := Lib.hid (fun j y hj hy => by
          by_cases h : j < 1
          · exact H.out j y h hy
          · obtain rfl : j = 1 := by omega
            cases hy
            exact fun h => hs (strOf h.symm).symm)
        have hb : ((⟨#[99, 111, 110, 102, 105, 103, 45, 102, 105, 108, 101, 115]⟩ : ByteArray).toList == s.toList) = false := by rw [eqT]; exact decide_eq_false (fun h => hs ((strOf h).trans (strOf rfl).symm))
        clear HY HN H hs
        generalize (⟨#[99, 111, 110, 102, 105, 103, 45, 102, 105, 108, 101, 115]⟩ : ByteArray) = L at *
        go_wp2
        go_roundw
        case rel => exact ⟨2, by omega, rfl, H', Lib.hid (by simp)⟩
        case measure => simp [intOf]
    · by_cases hs : (⟨#[104, 97, 108, 102, 45, 105, 110, 115, 116, 97, 108, 108, 101, 100]⟩ : ByteArray) = s
      · have hz := HY.out 2 _ rfl (by rw [← hs]) H.out
        clear HY HN H
        subst hs
        go_wp2
        go_ret
        exact ⟨by first | rfl | (rw [hz]; rfl), Below.refl _ _⟩
      · have H' : Hid (∀ (j : Nat) y, j < 2 + 1 → wordsU[j]? = some y → y ≠ s.data.toList) := Lib.hid (fun j y hj hy => by
          by_cases h : j < 2
          · exact H.out j y h hy
          · obtain rfl : j = 2 := by omega
            cases hy
            exact fun h => hs (strOf h.symm).symm)
        have hb : ((⟨#[104, 97, 108, 102, 45, 105, 110, 115, 116, 97, 108, 108, 101, 100]⟩ : ByteArray).toList == s.toList) = false := by rw [eqT]; exact decide_eq_false (fun h => hs ((strOf h).trans (strOf rfl).symm))
        clear HY HN H hs
        generalize (⟨#[104, 97, 108, 102, 45, 105, 110, 115, 116, 97, 108, 108, 101, 100]⟩ : ByteArray) = L at *
        go_wp2
        go_roundw
        case rel => exact ⟨3, by omega, rfl, H', Lib.hid (by simp)⟩
        case measure => simp [intOf]
    · by_cases hs : (⟨#[117, 110, 112, 97, 99, 107, 101, 100]⟩ : ByteArray) = s
      · have hz := HY.out 3 _ rfl (by rw [← hs]) H.out
        clear HY HN H
        subst hs
        go_wp2
        go_ret
        exact ⟨by first | rfl | (rw [hz]; rfl), Below.refl _ _⟩
      · have H' : Hid (∀ (j : Nat) y, j < 3 + 1 → wordsU[j]? = some y → y ≠ s.data.toList) := Lib.hid (fun j y hj hy => by
          by_cases h : j < 3
          · exact H.out j y h hy
          · obtain rfl : j = 3 := by omega
            cases hy
            exact fun h => hs (strOf h.symm).symm)
        have hb : ((⟨#[117, 110, 112, 97, 99, 107, 101, 100]⟩ : ByteArray).toList == s.toList) = false := by rw [eqT]; exact decide_eq_false (fun h => hs ((strOf h).trans (strOf rfl).symm))
        clear HY HN H hs
        generalize (⟨#[117, 110, 112, 97, 99, 107, 101, 100]⟩ : ByteArray) = L at *
        go_wp2
        go_roundw
        case rel => exact ⟨4, by omega, rfl, H', Lib.hid (by simp)⟩
        case measure => simp [intOf]
    · by_cases hs : (⟨#[104, 97, 108, 102, 45, 99, 111, 110, 102, 105, 103, 117, 114, 101, 100]⟩ : ByteArray) = s
      · have hz := HY.out 4 _ rfl (by rw [← hs]) H.out
        clear HY HN H
        subst hs
        go_wp2
        go_ret
        exact ⟨by first | rfl | (rw [hz]; rfl), Below.refl _ _⟩
      · have H' : Hid (∀ (j : Nat) y, j < 4 + 1 → wordsU[j]? = some y → y ≠ s.data.toList) := Lib.hid (fun j y hj hy => by
          by_cases h : j < 4
          · exact H.out j y h hy
          · obtain rfl : j = 4 := by omega
            cases hy
            exact fun h => hs (strOf h.symm).symm)
        have hb : ((⟨#[104, 97, 108, 102, 45, 99, 111, 110, 102, 105, 103, 117, 114, 101, 100]⟩ : ByteArray).toList == s.toList) = false := by rw [eqT]; exact decide_eq_false (fun h => hs ((strOf h).trans (strOf rfl).symm))
        clear HY HN H hs
        generalize (⟨#[104, 97, 108, 102, 45, 99, 111, 110, 102, 105, 103, 117, 114, 101, 100]⟩ : ByteArray) = L at *
        go_wp2
        go_roundw
        case rel => exact ⟨5, by omega, rfl, H', Lib.hid (by simp)⟩
        case measure => simp [intOf]
    · by_cases hs : (⟨#[116, 114, 105, 103, 103, 101, 114, 115, 45, 97, 119, 97, 105, 116, 101, 100]⟩ : ByteArray) = s
      · have hz := HY.out 5 _ rfl (by rw [← hs]) H.out
        clear HY HN H
        subst hs
        go_wp2
        go_ret
        exact ⟨by first | rfl | (rw [hz]; rfl), Below.refl _ _⟩
      · have H' : Hid (∀ (j : Nat) y, j < 5 + 1 → wordsU[j]? = some y → y ≠ s.data.toList) := Lib.hid (fun j y hj hy => by
          by_cases h : j < 5
          · exact H.out j y h hy
          · obtain rfl : j = 5 := by omega
            cases hy
            exact fun h => hs (strOf h.symm).symm)
        have hb : ((⟨#[116, 114, 105, 103, 103, 101, 114, 115, 45, 97, 119, 97, 105, 116, 101, 100]⟩ : ByteArray).toList == s.toList) = false := by rw [eqT]; exact decide_eq_false (fun h => hs ((strOf h).trans (strOf rfl).symm))
        clear HY HN H hs
        generalize (⟨#[116, 114, 105, 103, 103, 101, 114, 115, 45, 97, 119, 97, 105, 116, 101, 100]⟩ : ByteArray) = L at *
        go_wp2
        go_roundw
        case rel => exact ⟨6, by omega, rfl, H', Lib.hid (by simp)⟩
        case measure => simp [intOf]
    · by_cases hs : (⟨#[116, 114, 105, 103, 103, 101, 114, 115, 45, 112, 101, 110, 100, 105, 110, 103]⟩ : ByteArray) = s
      · have hz := HY.out 6 _ rfl (by rw [← hs]) H.out
        clear HY HN H
        subst hs
        go_wp2
        go_ret
        exact ⟨by first | rfl | (rw [hz]; rfl), Below.refl _ _⟩
      · have H' : Hid (∀ (j : Nat) y, j < 6 + 1 → wordsU[j]? = some y → y ≠ s.data.toList) := Lib.hid (fun j y hj hy => by
          by_cases h : j < 6
          · exact H.out j y h hy
          · obtain rfl : j = 6 := by omega
            cases hy
            exact fun h => hs (strOf h.symm).symm)
        have hb : ((⟨#[116, 114, 105, 103, 103, 101, 114, 115, 45, 112, 101, 110, 100, 105, 110, 103]⟩ : ByteArray).toList == s.toList) = false := by rw [eqT]; exact decide_eq_false (fun h => hs ((strOf h).trans (strOf rfl).symm))
        clear HY HN H hs
        generalize (⟨#[116, 114, 105, 103, 103, 101, 114, 115, 45, 112, 101, 110, 100, 105, 110, 103]⟩ : ByteArray) = L at *
        go_wp2
        go_roundw
        case rel => exact ⟨7, by omega, rfl, H', Lib.hid (by simp)⟩
        case measure => simp [intOf]
    · by_cases hs : (⟨#[105, 110, 115, 116, 97, 108, 108, 101, 100]⟩ : ByteArray) = s
      · have hz := HY.out 7 _ rfl (by rw [← hs]) H.out
        clear HY HN H
        subst hs
        go_wp2
        go_ret
        exact ⟨by first | rfl | (rw [hz]; rfl), Below.refl _ _⟩
      · have H' : Hid (∀ (j : Nat) y, j < 7 + 1 → wordsU[j]? = some y → y ≠ s.data.toList) := Lib.hid (fun j y hj hy => by
          by_cases h : j < 7
          · exact H.out j y h hy
          · obtain rfl : j = 7 := by omega
            cases hy
            exact fun h => hs (strOf h.symm).symm)
        have hb : ((⟨#[105, 110, 115, 116, 97, 108, 108, 101, 100]⟩ : ByteArray).toList == s.toList) = false := by rw [eqT]; exact decide_eq_false (fun h => hs ((strOf h).trans (strOf rfl).symm))
        clear HY HN H hs
        generalize (⟨#[105, 110, 115, 116, 97, 108, 108, 101, 100]⟩ : ByteArray) = L at *
        go_wp2
        go_roundw
        case rel => exact ⟨8, by omega, rfl, H', Lib.hid (by simp)⟩
        case measure => simp [intOf]
    · have hz := HN.out H.out
      clear HY HN H
      go_wp2
      go_ret
      exact ⟨by first | rfl | (rw [hz]; rfl), Below.refl _ _⟩
set_option maxRecDepth 100000 in
set_option maxHeartbeats 4000000 in
theorem state_ref (s : ByteArray) (w : World) : Calls Tryz.prog 12 #[.string s] w fun e w' => e = .returned (.int .i64 (stateU s.data.toList)) ∧ w' = w := by
  have C := fun z => word_ref z w
  by_cases h0 : s = (⟨#[]⟩ : ByteArray)
  · have hz : stateU s.data.toList = 0 := by rw [h0]; rfl
    rw [hz]
    clear hz
    subst h0
    go_enter Tryz.func12, Tryz.ntmps12
    go_wp2
    go_loopw [3] (fun i wr => ∃ k : Nat, 1 ≤ k ∧ k ≤ 8 ∧ i = .int .i64 k ∧ Hid (wr = w)) (fun i _ => 8 - (intOf i).toNat)
    case atStart => exact ⟨1, by omega, by omega, rfl, Lib.hid rfl⟩
    case round =>
      obtain ⟨k, h1, hk, rfl, HW⟩ := hrel
      obtain rfl := HW.out
      by_cases h8 : k = 8
      · subst h8
        clear C h1 hk
        go_wp2
        go_ret
        exact ⟨rfl, rfl⟩
      · have CK := C k
        have hne : bsT (wordU k) ≠ (⟨#[]⟩ : ByteArray) := by
          have h7 : k = 1 ∨ k = 2 ∨ k = 3 ∨ k = 4 ∨ k = 5 ∨ k = 6 ∨ k = 7 := by omega
          rcases h7 with rfl | rfl | rfl | rfl | rfl | rfl | rfl <;> decide +kernel
        have hlt : k < 8 := by omega
        have hb : ((bsT (wordU k)).toList == []) = false := by rw [eqTL]; exact decide_eq_false (fun h => hne (strOf h))
        generalize bsT (wordU k) = T at *
        clear C h8 hne
        go_wp2_with (go_at_call 10; refine CK.mono ?_; rintro e w1 ⟨rfl, rfl⟩)
        go_roundw
        case rel => exact ⟨k + 1, by omega, by omega, by go_num, Lib.hid (by simp)⟩
        case measure => simp [intOf]; omega
  have HY : Hid (∀ (k : Nat) x, wordsU[k]? = some x → s.data.toList = x → (∀ (j : Nat) y, j < k → wordsU[j]? = some y → y ≠ s.data.toList) → stateU s.data.toList = k) := Lib.hid (fun k x hk h hb => state_at hk h hb)
  have HN : Hid ((∀ (j : Nat) y, j < 8 → wordsU[j]? = some y → y ≠ s.data.toList) → stateU s.data.toList = 0) := Lib.hid (fun hb => state_no hb)
  have HZ : Hid (∀ (j : Nat) y, j < 1 → wordsU[j]? = some y → y ≠ s.data.toList) := Lib.hid (fun j y hj hy => by
    obtain rfl : j = 0 := by omega
    cases hy
    exact fun h => h0 (strOf h.symm))
  generalize stateU s.data.toList = Z at *
  clear h0
  go_enter Tryz.func12, Tryz.ntmps12
  go_wp2
  go_loopw [3] (fun i wr => ∃ k : Nat, 1 ≤ k ∧ k ≤ 8 ∧ i = .int .i64 k ∧ Hid (∀ (j : Nat) y, j < k → wordsU[j]? = some y → y ≠ s.data.toList) ∧ Hid (wr = w)) (fun i _ => 8 - (intOf i).toNat)
  case atStart => exact ⟨1, by omega, by omega, rfl, HZ, Lib.hid rfl⟩
  case round =>
    obtain ⟨k, h1, hk, rfl, H, HW⟩ := hrel
    obtain rfl := HW.out
    by_cases h8 : k = 8
    · subst h8
      have hz := HN.out H.out
      clear C HY HN H HZ h1 hk
      go_wp2
      go_ret
      exact ⟨by first | rfl | (rw [hz]; rfl), rfl⟩
    · obtain ⟨x, hx⟩ : ∃ x, wordsU[k]? = some x := ⟨_, List.getElem?_eq_getElem (by show k < 8; omega)⟩
      have hw : wordU k = x := by unfold wordU; rw [if_neg (by omega), Int.toNat_natCast, hx]
      have CK := C k
      rw [hw] at CK
      have hlt : k < 8 := by omega
      by_cases hs : bsT x = s
      · have hz := HY.out k x hx (by rw [← hs]) H.out
        clear C HY HN H HZ h8 hw hx
        rw [hs] at CK
        clear hs
        go_wp2_with (go_at_call 10; refine CK.mono ?_; rintro e w1 ⟨rfl, rfl⟩)
        go_ret
        exact ⟨by first | rfl | (rw [hz]; rfl), rfl⟩
      · have H' : Hid (∀ (j : Nat) y, j < k + 1 → wordsU[j]? = some y → y ≠ s.data.toList) := Lib.hid (fun j y hj hy => by
          by_cases h : j < k
          · exact H.out j y h hy
          · obtain rfl : j = k := by omega
            rw [hx] at hy
            cases hy
            exact fun h => hs (strOf h.symm).symm)
        have hb : ((bsT x).toList == s.toList) = false := by rw [eqT]; exact decide_eq_false (fun h => hs ((strOf h).trans (strOf rfl).symm))
        clear C HY HN H HZ h8 hw hx hs
        generalize bsT x = T at *
        go_wp2_with (go_at_call 10; refine CK.mono ?_; rintro e w1 ⟨rfl, rfl⟩)
        go_roundw
        case rel => exact ⟨k + 1, by omega, by omega, by go_num, H', Lib.hid (by simp)⟩
        case measure => simp [intOf]; omega
end Go.Proofs.YtbeoklihpkfofaaGreatDoor
namespace Go.Proofs.YtbeoklihpkfofaaGreatDoor
open Go.ChangeShapes Go.WideShapes Go.ChangeAt Go.RowKit
theorem maxlen_zero : ((begin Tryz.prog (fun _ _ => 0) default).world.heap[1]?).bind Obj.row? = some (#[.int .i64 0], 3) := by kernel_rfl
theorem laidP_shaped {w : World} (h : w.ShapedOpen Tryz.prog) : LaidP w := by
  have hs : 1 < w.heap.size := by
    obtain ⟨cs, hc, _⟩ := h.1 1 _ _ (of_decide_eq_true (by kernel_rfl)) maxlen_zero
    exact (Array.getElem?_eq_some_iff.1 hc).1
  exact ⟨cell_of_shapedOpen_int h (of_decide_eq_true (by kernel_rfl)) maxlen_zero rfl (by kernel_rfl) (by kernel_rfl) Tryz.underlying3, hs⟩
theorem vtPow : (Tryz.prog.globals[6]?).map (·.type) = some 245 := by kernel_rfl
theorem vtSyn : (Tryz.prog.globals[2]?).map (·.type) = some 128 := by kernel_rfl
theorem vtRng : (Tryz.prog.globals[3]?).map (·.type) = some 128 := by kernel_rfl
theorem vtWords : (Tryz.prog.globals[0]?).map (·.type) = some 54 := by kernel_rfl
theorem gWords : Tryz.prog.globalNamed "cellarer/status.words" = some 0 := by kernel_rfl
theorem vgTz : Tryz.prog.globalNamed "math/bits.deBruijn64tab" = some 8 := by kernel_rfl
theorem vc20 : Tryz.prog.cellsOf 245 = 20 := by kernel_rfl
theorem vcU64 : Tryz.prog.cellsOf 66 = 1 := by kernel_rfl
theorem vcStr : Tryz.prog.cellsOf 9 = 1 := by kernel_rfl
theorem vcES : Tryz.prog.cellsOf 234 = 1 := by kernel_rfl
theorem vstarE : "*" ++ "errors.errorString" = "*errors.errorString" := by decide
theorem vrowE (u : TypeId) (h : Tryz.prog.typeName? 3 u = some "*errors.errorString") : u = 232 :=
  typeName_ptr_named (nm := "errors.errorString") (by rw [vstarE]; kernel_rfl) (by kernel_rfl) (by decide) u (by rw [vstarE]; exact h)
theorem block_of_var {P : Program} {w : World} {n : String} {g : Nat} {cs : Array Value} (hg : P.globalNamed n = some g) (h : w.var? P n = some cs) : ∃ t fr, w.heap[g]? = some (.cells cs t fr) := by
  unfold World.var? at h
  simp only [hg, Option.bind_some] at h
  split at h
  · rename_i c t fr hh
    cases h
    exact ⟨t, fr, hh⟩
  · cases h
theorem var_of_head {P : Program} {W : World} {n : String} {d : DataW Unit} {r : List (String × DataW Unit)} (h : laidMet P ((n, d) :: r) W) : ∃ cs, W.var? P n = some cs := by
  obtain ⟨ps, ⟨g', t', cs, fuel, p, q, hg', ht', hvar, hd, _, _⟩, _⟩ := h
  exact ⟨_, hvar⟩

/-- An array of texts that reads as these holds these. -/
theorem cells_of_texts {H : Type} {enc : TypeId × Value → H} {P : Program} {w : World} {base : Nat} {sp : Nat → Bool} {held : Bool} {fuel : Nat} {t e : TypeId} {n : Nat} {cs : List Value} {bs : List Bs} {p : List MemPlace}
    (ht : P.underlying t = some (.array n e)) (he : P.underlying e = some .string) (hce : P.cellsOf e = 1)
    (h : DataW.trod enc P w base sp held fuel t cs = some (.agg (bs.map fun b => .lit (.string b)), p)) : ∀ (i : Nat) b, bs[i]? = some b → cs[i]? = some (.string ⟨b.toArray⟩) := by
  cases fuel with
  | zero => simp [DataW.trod] at h
  | succ fuel =>
    simp only [DataW.trod, ht, hce, Nat.mul_one] at h
    split at h
    · obtain ⟨xs, hm, hx⟩ := Option.map_eq_some_iff.1 h
      have hxs : xs.map (·.1) = bs.map fun b => (DataW.lit (.string b) : DataW H) := by
        have := congrArg Prod.fst hx
        simpa using this
      have hxl : xs.length = n := by simpa using Lib.mapM_length hm
      have hbl : bs.length = n := by
        have := congrArg List.length hxs
        simp at this
        omega
      intro i b hb
      have hi : i < n := by have := (List.getElem?_eq_some_iff.1 hb).1; omega
      obtain ⟨y, hy, hf⟩ := Lib.mapM_at hm i i (by simp [hi])
      obtain ⟨s, hc, rfl, -⟩ := DataW.trod_string he hf
      have h1 : cs[i]? = some (.string s) := by
        have := congrArg (·[0]?) hc
        simpa [List.getElem?_take, List.getElem?_drop] using this
      have h2 : (xs.map (·.1))[i]? = some (DataW.lit (.string s.data.toList) : DataW H) := by simp [hy]
      rw [hxs, List.getElem?_map, hb] at h2
      simp only [Option.map_some, Option.some.injEq, DataW.lit.injEq, Lit.string.injEq] at h2
      rw [h1, strOf h2.symm]
    · cases h
abbrev ulaid : List (String × DataW Unit) := [("math/bits.deBruijn32tab", Rows.laid_math_bits_deBruijn32tab), ("math/bits.deBruijn64tab", Rows.laid_math_bits_deBruijn64tab), ("internal/strconv.uint64pow10", Lib.tabData .u64 Lib.pow10Tab), ("unicode/utf8.acceptRanges", Rows.laid_unicode_utf8_acceptRanges), ("strconv.ErrRange", Rows.laid_strconv_ErrRange), ("strconv.ErrSyntax", Rows.laid_strconv_ErrSyntax), ("cellarer/status.words", .agg (wordsU.map fun b => .lit (.string b))), ("unicode/utf8.first", Rows.laid_unicode_utf8_first)]
set_option maxRecDepth 100000 in
theorem laidU_of {W : World} (hs : W.ShapedOpen Tryz.prog) (h : laidMetH Tryz.prog Rows.statusWordsRow.laid W) : LaidU W := by
  have h0 : laidMet Tryz.prog ulaid W := by
    have e : laidMetH Tryz.prog Rows.statusWordsRow.laid W = laidMet Tryz.prog Rows.statusWordsRow.laid W := MakeChecks.laidMetH_plain _ _ _ (by kernel_rfl)
    rw [e] at h
    exact h
  have h1 := laidMet.tail h0
  have h2 := laidMet.tail h1
  have h3 := laidMet.tail h2
  have h4 := laidMet.tail h3
  have h5 := laidMet.tail h4
  have h6 := laidMet.tail h5
  have hp := laidP_shaped hs
  refine ⟨⟨⟨Lib.tabIs_of_head gPow vtPow Tryz.underlying245 Tryz.underlying66 vcU64 vc20 h2, ?_, ?_, ?_⟩, hp.mx⟩, hp, ?_⟩
  · obtain ⟨a0, s0, hv0, -, -, -⟩ := laid_sentinel h5 gSyn vtSyn Tryz.underlying128 vrowE Tryz.underlying232 Tryz.underlying234 rfl rfl Tryz.underlying9 vcES vcStr
    exact ⟨_, _, hv0⟩
  · obtain ⟨a0, s0, hv0, -, -, -⟩ := laid_sentinel h4 gRng vtRng Tryz.underlying128 vrowE Tryz.underlying232 Tryz.underlying234 rfl rfl Tryz.underlying9 vcES vcStr
    exact ⟨_, _, hv0⟩
  · obtain ⟨cs, hv⟩ := var_of_head h1
    obtain ⟨t, fr, hh⟩ := block_of_var vgTz hv
    have := (Array.getElem?_eq_some_iff.1 hh).1
    omega
  · intro k x hx
    obtain ⟨ps, ⟨g', t', cs, fuel, p, q, hg', ht', hvar, hd, _, _⟩, _⟩ := h6
    obtain rfl := Option.some.inj (gWords.symm.trans hg')
    obtain rfl := Option.some.inj (vtWords.symm.trans ht')
    have hc := cells_of_texts Tryz.underlying54 Tryz.underlying9 vcStr hd k x hx
    have := World.var?_cell gWords hvar k
    rw [this]
    simpa using hc
section
variable {H : Type} {enc : TypeId × Value → H}
set_option maxRecDepth 100000 in
theorem lift_both {os : Os} {f : FuncId} {fn : Func} {s : ChangeSpec} {laid : List (String × DataW Unit)} (started : os.Started) (noInit : Tryz.checked.prog.inits.idxOf? f = none) (hfn : Tryz.checked.prog.funcs[f]? = some fn)
    (hplain : (laid.all fun x => x.2.handleName?.isNone) = true)
    (witness : ∃ (w : World) (tape : Tape) (i : Input), w.os = os ∧ (w.forCall tape i).Shaped Tryz.checked.prog ∧ i.vars = [] ∧ Input.okWide Tryz.checked.prog (w.forCall tape i) .any w.heap.size f i ∧
      ((s.pre enc Tryz.checked.prog fn [] false (w.forCall tape i).memory i.args ∧ laidMetH Tryz.checked.prog laid (w.forCall tape i).memory) ∧ sizedMet enc Tryz.checked.prog fn (OpenSpec.ofChange s) false (w.forCall tape i).memory i.args) ∧ ({} : Assume).holds Tryz.checked.prog (lone (Frame.enter Tryz.checked.prog f i.args .normal) [] (w.forCall tape i)))
    (contract : ∀ (W : World) (base : Nat) (args : Array Value) (ds gs : List (DataW H)) (before : List MemPlace),
      (∀ (j : Nat) t v, fn.params[j]? = some t → args[j]? = some v → Value.okWide Tryz.checked.prog W .any base t v) →
      DataW.Whole enc Tryz.checked.prog fn.params.toList s.vars false W args.toList ds gs before → W.ShapedOpen Tryz.checked.prog → laidMetH Tryz.checked.prog laid W →
      Calls Tryz.checked.prog f args W fun e W' => ∃ v, e = .returned v ∧ s.post enc Tryz.checked.prog fn false true false false W args v W') :
    ReturnsInHanded {} Tryz.checked os f .any (fun w args => (s.pre enc Tryz.checked.prog fn [] false w args ∧ laidMetH Tryz.checked.prog laid w) ∧ sizedMet enc Tryz.checked.prog fn (OpenSpec.ofChange s) false w args) (s.post enc Tryz.checked.prog fn false true false false) := by
  refine returnsInHanded_of_calls own started noInit witness fun w tape i _ hsh _ hok hpre _ => ?_
  obtain ⟨_, _, _, g, hg, _, _, _, _, hval⟩ := hok
  obtain rfl : g = fn := Option.some.inj (hg.symm.trans hfn)
  obtain ⟨⟨⟨ds, gs, before, hw, _⟩, hl⟩, _⟩ := hpre
  have hl' : laidMetH Tryz.checked.prog laid (w.forCall tape i) := by
    rw [MakeChecks.laidMetH_plain _ _ _ hplain] at hl ⊢
    exact hl.of_heap (by rfl)
  refine (contract (w.forCall tape i) w.heap.size i.args ds gs before hval (DataW.Whole.of_heap (w' := w.forCall tape i) (by rfl) hw) hsh hl').mono fun e W' ⟨v, he, hp⟩ => ?_
  subst he
  exact ChangeSpec.post_blind hp
end

end Go.Proofs.YtbeoklihpkfofaaGreatDoor
