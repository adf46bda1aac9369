/-
  One selection: the program's Right and wrong, its words, its line: what each returns; nothing old turns. Condition of Right: LaidP.
-/
import Derived.Test.YtnfhccnicojdcaaGreatDoorYHold
import Derived.Test.YtnfhccnicojdcaaGreatDoorRowV
import Derived.Test.YtnfhccnicojdcaaGreatDoorPName
import Derived.Test.YtnfhccnicojdcaaGreatDoorPClean
namespace Go.Proofs.YtnfhccnicojdcaaGreatDoor
open Go.RowKit Go.Shelf
theorem join_isC (c : UInt8) : ∀ (l : List Bs), Lib.join l [c] = joinC c l
  | [] => rfl
  | [p] => by simp [Lib.join, joinC, List.intercalate]
  | p :: q :: ps => by
    have := join_isC c (q :: ps)
    unfold Lib.join List.intercalate at this ⊢
    rw [joinC, ← this, List.intersperse_cons_cons]
    simp
theorem joinC_len2 (c : UInt8) (N : Nat) : ∀ (l : List Bs), (∀ p ∈ l, p.length ≤ N) → (joinC c l).length ≤ l.length * (N + 1)
  | [], _ => by simp [joinC]
  | [p], h => by have := h p (by simp); simp [joinC]; omega
  | p :: q :: ps, h => by
    have h1 := joinC_len2 c N (q :: ps) (fun x hx => h x (List.mem_cons_of_mem _ hx))
    have h2 := h p (by simp)
    rw [joinC, List.length_append, List.length_cons, List.length_cons (a := p), Nat.add_mul]
    omega
theorem joinB_any (v : Value) (ls : List Bs) (h0 : 0 < ls.length) (hl : ls.length ≤ 90000) (hs : ∀ p ∈ ls, p.length ≤ 4000) (w : World) (h : HoldT w v ls) :
    Calls Tryz.prog 61 #[v, .string ⟨#[32]⟩] w fun e w' => e = .returned (.string ⟨(joinC 32 ls).toArray⟩) ∧ Below w.heap.size w w' := by
  obtain ⟨a, c, b, o, rfl, hc, ha, hcell⟩ := h
  obtain ⟨rfl, hb⟩ := ha h0
  have hm : (ls.map fun l => ByteArray.mk l.toArray).map (fun x => x.data.toList) = ls := by
    rw [List.map_map]; conv => rhs; rw [← List.map_id ls]
    exact List.map_congr_left (fun l _ => by simp)
  have hj := joinC_len2 32 4000 ls hs
  have hjj : ls.length * 4001 ≤ 90000 * 4001 := Nat.mul_le_mul_right _ hl
  have := Tryz.strings_Join b o c (ls.map fun l => ByteArray.mk l.toArray) ⟨#[32]⟩ w (fun j x hx => by
    rw [List.getElem?_map] at hx
    cases hg : ls[j]? with
    | none => rw [hg] at hx; cases hx
    | some l => rw [hg] at hx; obtain rfl := Option.some.inj hx; exact hcell j l hg) hb (by rw [List.length_map]; omega) (by rw [List.length_map]; exact hc) (by rw [hm]; show (Lib.join ls [32]).length ≤ _; rw [join_isC]; omega)
  rw [hm, List.length_map, show (ByteArray.mk #[32]).data.toList = [32] from rfl, join_isC] at this
  exact this
end Go.Proofs.YtnfhccnicojdcaaGreatDoor
