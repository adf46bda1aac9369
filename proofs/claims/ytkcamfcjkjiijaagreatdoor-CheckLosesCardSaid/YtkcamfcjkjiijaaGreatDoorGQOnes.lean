/-
  The reference's Ones and List: what each returns; nothing old turns.
-/
import Derived.Test.YtkcamfcjkjiijaaGreatDoorGBRefR
import Derived.Test.YtkcamfcjkjiijaaGreatDoorGQLacks
import Derived.Test.YtkcamfcjkjiijaaGreatDoorGTMath
import Derived.Test.YtkcamfcjkjiijaaGreatDoorGBoxV
import Derived.Laws.StructEq
import Derived.Deep.QuietTactic
import Derived.BigQuiet
import Derived.Deep.RegionHeld3
namespace Go.Proofs.YtkcamfcjkjiijaaGreatDoor
open Go.RowKit
theorem join_snocQ (sep x : Bs) : ∀ (ps : List Bs), ps ≠ [] → Lib.join (ps ++ [x]) sep = Lib.join ps sep ++ (sep ++ x)
  | [], h => absurd rfl h
  | [p], _ => by
    have : [p] ++ [x] = p :: x :: [] := rfl
    rw [this, join_two, Lib.join_one, Lib.join_one]
  | p :: q :: ps, _ => by
    have ih := join_snocQ sep x (q :: ps) (by simp)
    have e : (p :: q :: ps) ++ [x] = p :: q :: (ps ++ [x]) := rfl
    have e2 : (q :: ps) ++ [x] = q :: (ps ++ [x]) := rfl
    rw [e, join_two, ← e2, ih, join_two]
    simp
theorem take_snocQ {α : Type} {l : List α} {k : Nat} {x : α} (h : l[k]? = some x) : l.take (k + 1) = l.take k ++ [x] := by
  rw [List.take_add_one, h]; rfl
set_option maxRecDepth 100000 in
set_option maxHeartbeats 8000000 in
theorem join6_any (sep : ByteArray) (hsep : sep.size ≤ 10) (v : Value) (ls : List Bs) (hl : ls.length ≤ 90000) (hs : ∀ p ∈ ls, p.length ≤ 10000000) (w : World) (h : HoldT w v ls) :
    Calls Tryz.prog 92 #[v, .string sep] w fun e w' => e = .returned (.string (bsT (Lib.join ls sep.data.toList))) ∧ w = w' := by
  obtain ⟨a, c, b, o, rfl, hc, ha, hcell⟩ := h
  have HC := Lib.hid hcell
  have HS := Lib.hid hs
  have HJL : Hid (∀ k, (Lib.join (ls.take k) sep.data.toList).length ≤ 90000 * 10000010) := Lib.hid (fun k => by
    have h1 := joinM_len sep.data.toList 10000000 (ls.take k) (fun p hp => hs p (List.mem_of_mem_take hp))
    have h2 : (ls.take k).length ≤ 90000 := Nat.le_trans (List.length_take_le' _ _) hl
    have h3 : (ls.take k).length * (10000000 + sep.data.toList.length) ≤ 90000 * 10000010 := Nat.mul_le_mul h2 (by rw [← sizeOf]; omega)
    omega)
  obtain ⟨n, hN⟩ : ∃ n, ls.length = n := ⟨_, rfl⟩
  rw [hN] at hc ha hl ⊢
  have HN := Lib.hid hN
  clear hcell hN hs
  go_enter Tryz.func92, Tryz.ntmps92
  go_wp2
  go_loop [5, 6] (fun z i => ∃ (k : Nat) (S : ByteArray), k ≤ n ∧ i = .int .i64 k ∧ z = .string S ∧ S.size ≤ 900000900000 ∧ Hid (S.data.toList = Lib.join (ls.take k) sep.data.toList)) (fun _ i => n - (intOf i).toNat)
  case atStart => exact ⟨0, ⟨#[]⟩, by omega, rfl, rfl, by decide, Lib.hid rfl⟩
  case round =>
    obtain ⟨k, S, hk, rfl, rfl, hS, HZ⟩ := hrel
    by_cases hlt : k < n
    · obtain ⟨rfl, hbw⟩ := ha (by omega)
      obtain ⟨p, hp⟩ : ∃ p, ls[k]? = some p := ⟨_, List.getElem?_eq_getElem (by rw [HN.out]; exact hlt)⟩
      have c0 := HC.out k p hp
      have hpl := HS.out p (List.mem_of_getElem? hp)
      have hj := HJL.out (k + 1)
      have hts := take_snocQ hp
      obtain ⟨P, hP⟩ : ∃ P : ByteArray, (⟨p.toArray⟩ : ByteArray) = P := ⟨_, rfl⟩
      have hPL : P.data.toList = p := by rw [← hP]
      have hPs : P.size ≤ 10000000 := by rw [sizeOf, hPL]; exact hpl
      rw [hP] at c0
      by_cases h0 : k = 0
      · subst h0
        have HZ2 : Hid ((S ++ P).data.toList = Lib.join (ls.take (0 + 1)) sep.data.toList) := Lib.hid (by
          rw [hts, ByteArray.data_append, Array.toList_append, HZ.out, hPL]
          simp [Lib.join, List.intercalate])
        have hs2 : (S ++ P).size ≤ 900000900000 := by rw [sizeOf, HZ2.out]; omega
        have q3 : ¬ 9223372036854775807 < S.size + P.size := by omega
        rw [Nat.add_zero] at c0
        clear hp hP hPL hj hts hpl
        go_wp2
        go_round
        case rel => exact ⟨1, _, by omega, rfl, rfl, hs2, HZ2⟩
        case measure => simp [intOf]; omega
      · have hne : ls.take k ≠ [] := fun e => by
          have := congrArg List.length e
          rw [List.length_take, HN.out] at this
          simp at this; omega
        have HZ2 : Hid (((S ++ sep) ++ P).data.toList = Lib.join (ls.take (k + 1)) sep.data.toList) := Lib.hid (by
          rw [hts, join_snocQ _ _ _ hne, ByteArray.data_append, Array.toList_append, ByteArray.data_append, Array.toList_append, HZ.out, hPL, List.append_assoc])
        have hs2 : ((S ++ sep) ++ P).size ≤ 900000900000 := by rw [sizeOf, HZ2.out]; omega
        have q2 : ¬ 9223372036854775807 < S.size + sep.size := by omega
        have q4 : (S ++ sep).size = S.size + sep.size := ByteArray.size_append
        have q3 : ¬ 9223372036854775807 < S.size + sep.size + P.size := by omega
        have hk0 : 0 < k := by omega
        clear hp hP hPL hj hts hpl hne h0
        go_wp2
        go_round
        case rel => exact ⟨k + 1, _, by omega, by go_num, rfl, hs2, HZ2⟩
        case measure => simp [intOf]; omega
    · obtain rfl : k = n := by omega
      have HE : Hid (bsT (Lib.join ls sep.data.toList) = S) := Lib.hid (by
        have := HZ.out
        rw [List.take_of_length_le (by rw [HN.out]; omega)] at this
        rw [← this])
      clear hlt
      go_wp2
      go_ret
      exact ⟨by rw [HE.out]; rfl, rfl⟩
end Go.Proofs.YtkcamfcjkjiijaaGreatDoor
namespace Go.Proofs.YtkcamfcjkjiijaaGreatDoor
open Go.RowKit
theorem long_miss {l : List Gv} (h : ∀ (j : Nat) y, l[j]? = some y → longG y.1 = false) : (fsts l).any longG = false := by
  rw [List.any_eq_false]
  intro g hg
  obtain ⟨x, hx, rfl⟩ := List.mem_map.1 hg
  obtain ⟨j, hj⟩ := List.mem_iff_getElem?.1 hx
  rw [h j x hj]; simp
theorem long_hit {l : List Gv} {k : Nat} {x : Gv} (h : l[k]? = some x) (hb : longG x.1 = true) : (fsts l).any longG = true := List.any_eq_true.2 ⟨x.1, List.mem_map_of_mem (List.mem_of_getElem? h), hb⟩
theorem all_takeQ {g : List Rl} (h : ∀ (j : Nat) y, g[j]? = some y → rightR y = true) : g.all rightR = true := by
  rw [List.all_eq_true]
  intro y hy
  obtain ⟨j, hj⟩ := List.mem_iff_getElem?.1 hy
  exact h j y hj
theorem all_badQ {g : List Rl} {k : Nat} {x : Rl} (h : g[k]? = some x) (hr : rightR x = false) : g.all rightR = false := by
  rw [List.all_eq_false]
  exact ⟨x, List.mem_of_getElem? h, by rw [hr]; simp⟩
theorem OwnT.formQ {w : World} {B : Nat} {v : Value} {ls : List Bs} (h : OwnT w B v ls) : ∃ a c, v = .slice a ls.length c := by
  obtain ⟨a, c, b, o, e, _⟩ := h.holds; exact ⟨a, c, e⟩
theorem OwnT.onQ {w w' : World} {B : Nat} {v : Value} {ls : List Bs} (h : OwnT w B v ls) (hb : Below w.heap.size w w') : OwnT w' B v ls := World.ownsRow.kept h (grownV hb) (by cases v.ownBlock <;> simp)
end Go.Proofs.YtkcamfcjkjiijaaGreatDoor
namespace Go.Proofs.YtkcamfcjkjiijaaGreatDoor
open Go.RowKit
end Go.Proofs.YtkcamfcjkjiijaaGreatDoor
namespace Go.Proofs.YtkcamfcjkjiijaaGreatDoor
open Go.RowKit
theorem OwnQ.lit (w : World) (B : Nat) (P Q Z : ByteArray) (hB : B ≤ w.heap.size) : OwnQ (w.alloc (.cells #[.string P, .string Q, .string Z] 75)) B (.slice (some ⟨w.heap.size, 0, none⟩) 1 1) [(P.data.toList, Q.data.toList, Z.data.toList)] :=
  ⟨cellsQ_len _, rfl, .inr ⟨w.heap.size, 1, #[.string P, .string Q, .string Z], rfl, hB, heap_alloc_new w _, Nat.le_refl _, by decide, rfl, by simp⟩⟩
end Go.Proofs.YtkcamfcjkjiijaaGreatDoor
