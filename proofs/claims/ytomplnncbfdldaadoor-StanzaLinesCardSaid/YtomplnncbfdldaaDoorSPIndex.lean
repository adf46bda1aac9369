/-
  The program's slices.Index of a list of texts and the empty text: what it returns; nothing old turns.
-/
import Derived.Test.YtomplnncbfdldaaDoorSPFields
namespace Go.Proofs.YtomplnncbfdldaaDoor
open Go.RowKit
/-- The place of the first empty line, or none. -/
def IdxE (ls : List Bs) (e : Ending) : Prop := (∃ k : Nat, e = .returned (.int .i64 k) ∧ k < ls.length ∧ ls.all neB = false ∧ ls.takeWhile neB = ls.take k ∧ ls.dropWhile neB = ls.drop k) ∨ (e = .returned (.int .i64 (-1)) ∧ ls.all neB = true)
theorem idx_at {ls : List Bs} {k : Nat} (hk : ls[k]? = some []) (h : ∀ j x, j < k → ls[j]? = some x → neB x = true) : IdxE ls (.returned (.int .i64 k)) := by
  have hl := (List.getElem?_eq_some_iff.1 hk).1
  obtain ⟨t1, t2⟩ := tw_of neB ls k (by omega) h (fun x hx => by rw [hk] at hx; cases hx; rfl)
  refine .inl ⟨k, rfl, hl, ?_, t1, t2⟩
  cases g : ls.all neB
  · rfl
  · have := List.all_eq_true.1 g [] (List.mem_of_getElem? hk)
    exact absurd this (by decide)
theorem idx_none {ls : List Bs} (h : ∀ j x, j < ls.length → ls[j]? = some x → neB x = true) : IdxE ls (.returned (.int .i64 (-1))) := by
  refine .inr ⟨rfl, List.all_eq_true.2 fun x hx => ?_⟩
  obtain ⟨j, hj, rfl⟩ := List.getElem_of_mem hx
  exact h j _ hj (List.getElem?_eq_getElem hj)
theorem ne_of {x : ByteArray} (h : x.size ≠ 0) : neB x.data.toList = true := by
  unfold neB
  cases g : x.data.toList with
  | nil => exact absurd (by rw [sizeOf, g]; rfl) h
  | cons _ _ => rfl
set_option maxRecDepth 100000 in
set_option maxHeartbeats 4000000 in
theorem index_any (v : Value) (ls : List Bs) (hm : ls.length ≤ 90000) (w : World) (h : HoldT w v ls) :
    Calls Tryd.prog 17 #[v, .string ⟨#[]⟩] w fun e w' => IdxE ls e ∧ w = w' := by
  obtain ⟨a, c, b, o, rfl, hc, ha, hcell⟩ := h
  have HCL := Lib.hid hcell
  obtain ⟨m, hN⟩ : ∃ m, ls.length = m := ⟨_, rfl⟩
  rw [hN] at hc ha hm ⊢
  have HN := Lib.hid hN
  clear hcell hN
  go_enter Tryd.func17, Tryd.ntmps17
  go_wp2
  go_loopw [8] (fun i wr => ∃ k : Nat, k ≤ m ∧ i = .int .i64 k ∧ Hid (∀ j x, j < k → ls[j]? = some x → neB x = true) ∧ Hid (w = wr)) (fun i _ => m - (intOf i).toNat)
  case atStart => exact ⟨0, by omega, rfl, Lib.hid (fun j x h => by omega), Lib.hid rfl⟩
  case round =>
    obtain ⟨k, hk, rfl, HA, HW⟩ := hrel
    obtain rfl := HW.out
    by_cases hlt : k < m
    · obtain ⟨rfl, hbw⟩ := ha (by omega)
      obtain ⟨x, hx⟩ : ∃ x, ls[k]? = some x := ⟨_, List.getElem?_eq_getElem (by rw [HN.out]; exact hlt)⟩
      obtain ⟨X, hX⟩ : ∃ X : ByteArray, X.data.toList = x := ⟨⟨x.toArray⟩, by simp⟩
      have hcx : w.cell? ⟨b, o + k, none⟩ = some (.string X) := by rw [strOf hX]; exact HCL.out k x hx
      have he := emptyT X
      by_cases h0 : X.size = 0
      · rw [decide_eq_true h0] at he
        have hxn : x = [] := by rw [← hX]; exact List.eq_nil_of_length_eq_zero (by rw [← sizeOf]; exact h0)
        have HR := Lib.hid (idx_at (by rw [hx, hxn]) HA.out)
        clear hx hX h0 hxn HA
        go_wp2
        go_ret
        exact ⟨HR.out, rfl⟩
      · rw [decide_eq_false h0] at he
        have HNX : Hid (∀ j y, j < k + 1 → ls[j]? = some y → neB y = true) := Lib.hid (fun j y hj hy => by
          rcases Nat.lt_or_ge j k with h3 | h3
          · exact HA.out j y h3 hy
          · obtain rfl : j = k := by omega
            rw [hx] at hy; cases hy; rw [← hX]; exact ne_of h0)
        clear hx hX h0 HA
        go_wp2
        go_roundw
        case rel => exact ⟨k + 1, by omega, by go_num, HNX, (by first | exact Lib.hid rfl | exact Lib.hid trivial)⟩
        case measure => simp [intOf]; omega
    · obtain rfl : k = m := by omega
      have HR := Lib.hid (idx_none (ls := ls) (fun j x hj => HA.out j x (by rw [HN.out] at hj; exact hj)))
      clear HA
      go_wp2
      go_ret
      exact ⟨HR.out, rfl⟩
end Go.Proofs.YtomplnncbfdldaaDoor
