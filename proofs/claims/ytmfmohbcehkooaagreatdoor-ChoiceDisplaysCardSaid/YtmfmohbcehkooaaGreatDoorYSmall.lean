/-
  One selection: the program's Right and wrong, its words, its line: what each returns; nothing old turns. Condition of Right: LaidP.
-/
import Derived.Test.YtmfmohbcehkooaaGreatDoorYHold
import Derived.Test.YtmfmohbcehkooaaGreatDoorBoxV
import Derived.Test.YtmfmohbcehkooaaGreatDoorPName
import Derived.Test.YtmfmohbcehkooaaGreatDoorPClean
namespace Go.Proofs.YtmfmohbcehkooaaGreatDoor
open Go.RowKit Go.Shelf
set_option maxRecDepth 100000 in
set_option maxHeartbeats 4000000 in
theorem rightY_any (x : Sl) (h1 : x.1.length ≤ 4000) (h2 : x.2.2.length ≤ 4000) (w : World) (hL : LaidP w) :
    Calls Tryz.prog 30 #[aggY x] w fun e w' => e = .returned (.bool (rightY x)) ∧ Below w.heap.size w w' := by
  obtain ⟨p, m, u⟩ := x
  have B0 := (Below.refl w.heap.size w).alloc (Nat.le_refl _) (.cells #[.string (bsT p), .bool m, .string (bsT u)] 55)
  have NA := name_any (bsT p) (by rw [sizeOf, bytesOf]; exact h1) (w.alloc (.cells #[.string (bsT p), .bool m, .string (bsT u)] 55))
  have PR := right_any (bsT u) (by rw [sizeOf, bytesOf]; exact h2) _ (hL.on B0)
  rw [bytesOf] at PR NA
  have HB0 := Lib.hid B0
  unfold rightY aggY
  dsimp only at h1 h2 ⊢
  obtain ⟨x0, x1, x2⟩ := boxV3 w (.string (bsT p)) (.bool m) (.string (bsT u)) 55
  generalize nameB p = q at *
  generalize right u = r at *
  generalize bsT p = X at *
  generalize bsT u = U at *
  clear B0 h1 h2
  cases q
  · go_enter Tryz.func30, Tryz.ntmps30
    go_wp2_with (go_at_call 61; (with_reducible refine NA.mono ?_); rintro e w1 ⟨rfl, rfl⟩)
    go_ret
    exact ⟨retb (by simp), HB0.out⟩
  · go_enter Tryz.func30, Tryz.ntmps30
    go_wp2_with (first
      | (go_at_call 61; (with_reducible refine NA.mono ?_); rintro e w1 ⟨rfl, rfl⟩)
      | (go_at_call 62; (with_reducible refine PR.mono ?_); rintro e w1 ⟨rfl, hb⟩; have HB := Lib.hid (HB0.out.trans (hb.mono HB0.out.size)); clear hb PR))
    go_ret
    exact ⟨retb (by simp), HB.out⟩
set_option maxRecDepth 100000 in
set_option maxHeartbeats 4000000 in
theorem wrongY_any (x : Sl) (h1 : x.1.length ≤ 4000) (h2 : x.2.2.length ≤ 4000) (w : World) (hL : LaidP w) :
    Calls Tryz.prog 60 #[aggY x] w fun e w' => e = .returned (.bool (!rightY x)) ∧ Below w.heap.size w w' := by
  have R := fun W (hb : Below w.heap.size w W) => rightY_any x h1 h2 W (hL.on hb)
  obtain ⟨p, m, u⟩ := x
  have B0 := (Below.refl w.heap.size w).alloc (Nat.le_refl _) (.cells #[.string (bsT p), .bool m, .string (bsT u)] 55)
  have R0 := R _ (Below.refl _ _)
  have R1 := R _ B0
  have HB0 := Lib.hid B0
  have HR := Lib.hid (Below.refl w.heap.size w)
  unfold aggY at R0 R1 ⊢
  dsimp only at h1 h2 R0 R1 ⊢
  obtain ⟨x0, x1, x2⟩ := boxV3 w (.string (bsT p)) (.bool m) (.string (bsT u)) 55
  generalize rightY (p, m, u) = q at *
  generalize bsT p = X at *
  generalize bsT u = U at *
  clear B0 R h1 h2
  go_enter Tryz.func60, Tryz.ntmps60
  go_wp2_with (go_at_call 30; first | ((with_reducible refine R1.mono ?_); rintro e w1 ⟨rfl, hb⟩; have HB := Lib.hid (HB0.out.trans (hb.mono HB0.out.size)); clear hb) | ((with_reducible refine R0.mono ?_); rintro e w1 ⟨rfl, hb⟩; have HB := Lib.hid (HR.out.trans (hb.mono HR.out.size)); clear hb))
  go_ret
  exact ⟨rfl, HB.out⟩
theorem mode_any (b : Bool) (w : World) : Calls Tryz.prog 34 #[.bool b] w fun e w' => e = .returned (.string (bsT (wordY b))) ∧ w = w' := by
  cases b
  all_goals
    go_enter Tryz.func34, Tryz.ntmps34
    go_wp2
    go_ret
    exact ⟨rfl, rfl⟩
theorem word_ref30 (b : Bool) (w : World) : Calls Tryz.prog 38 #[.bool b] w fun e w' => e = .returned (.string (bsT (wordY b))) ∧ w = w' := by
  cases b
  all_goals
    go_enter Tryz.func38, Tryz.ntmps38
    go_wp2
    go_ret
    exact ⟨rfl, rfl⟩
theorem join_isC (c : UInt8) : ∀ (l : List Bs), Lib.join l [c] = joinC c l
  | [] => rfl
  | [p] => by simp [Lib.join, joinC, List.intercalate]
  | p :: q :: ps => by
    have := join_isC c (q :: ps)
    unfold Lib.join List.intercalate at this ⊢
    rw [joinC, ← this, List.intersperse_cons_cons]
    simp
theorem joinC_len2 (c : UInt8) (N : Nat) : ∀ (l : List Bs), (∀ p ∈ l, p.length ≤ N) → (joinC c l).length ≤ l.length * (N + 1)
  | [], _ => by simp [joinC]
  | [p], h => by have := h p (by simp); simp [joinC]; omega
  | p :: q :: ps, h => by
    have h1 := joinC_len2 c N (q :: ps) (fun x hx => h x (List.mem_cons_of_mem _ hx))
    have h2 := h p (by simp)
    rw [joinC, List.length_append, List.length_cons, List.length_cons (a := p), Nat.add_mul]
    omega
theorem joinB_any (v : Value) (ls : List Bs) (h0 : 0 < ls.length) (hl : ls.length ≤ 90000) (hs : ∀ p ∈ ls, p.length ≤ 4000) (w : World) (h : HoldT w v ls) :
    Calls Tryz.prog 68 #[v, .string ⟨#[32]⟩] w fun e w' => e = .returned (.string ⟨(joinC 32 ls).toArray⟩) ∧ Below w.heap.size w w' := by
  obtain ⟨a, c, b, o, rfl, hc, ha, hcell⟩ := h
  obtain ⟨rfl, hb⟩ := ha h0
  have hm : (ls.map fun l => ByteArray.mk l.toArray).map (fun x => x.data.toList) = ls := by
    rw [List.map_map]; conv => rhs; rw [← List.map_id ls]
    exact List.map_congr_left (fun l _ => by simp)
  have hj := joinC_len2 32 4000 ls hs
  have hjj : ls.length * 4001 ≤ 90000 * 4001 := Nat.mul_le_mul_right _ hl
  have := Tryz.strings_Join b o c (ls.map fun l => ByteArray.mk l.toArray) ⟨#[32]⟩ w (fun j x hx => by
    rw [List.getElem?_map] at hx
    cases hg : ls[j]? with
    | none => rw [hg] at hx; cases hx
    | some l => rw [hg] at hx; obtain rfl := Option.some.inj hx; exact hcell j l hg) hb (by rw [List.length_map]; omega) (by rw [List.length_map]; exact hc) (by rw [hm]; show (Lib.join ls [32]).length ≤ _; rw [join_isC]; omega)
  rw [hm, List.length_map, show (ByteArray.mk #[32]).data.toList = [32] from rfl, join_isC] at this
  exact this
set_option maxRecDepth 100000 in
set_option maxHeartbeats 4000000 in
theorem line_any (v : Value) (ls : List Bs) (h0 : 0 < ls.length) (hl : ls.length ≤ 90) (hs : ∀ p ∈ ls, p.length ≤ 4000) (w : World) (h : HoldT w v ls) :
    Calls Tryz.prog 33 #[v] w fun e w' => e = .returned (.string (bsT (joinC 32 ls ++ [10]))) ∧ Below w.heap.size w w' := by
  have J := joinB_any v ls h0 (by omega) hs w h
  have hj := joinC_len2 32 4000 ls hs
  have hjj : ls.length * 4001 ≤ 90 * 4001 := Nat.mul_le_mul_right _ hl
  obtain ⟨T, hT⟩ : ∃ T : ByteArray, (⟨(joinC 32 ls).toArray⟩ : ByteArray) = T := ⟨_, rfl⟩
  have hs1 : T.size ≤ 400000 := by rw [← hT, sizeOf, bytesOf]; omega
  have HE : Hid (bsT (joinC 32 ls ++ [10]) = T ++ ⟨#[10]⟩) := Lib.hid (strOf (by rw [← hT]; simp)).symm
  have h1s : ∀ x, (ByteArray.mk #[x]).size = 1 := fun _ => rfl
  have q3 : ¬ 9223372036854775807 < T.size + 1 := by omega
  rw [hT] at J
  rw [HE.out]
  obtain ⟨a, c, b, o, rfl, -⟩ := h
  clear hT hj hjj hs h0 hl
  generalize ls.length = n at *
  go_enter Tryz.func33, Tryz.ntmps33
  go_wp2_with (go_at_call 68; (with_reducible refine J.mono ?_); rintro e w1 ⟨rfl, hb⟩; have HB := Lib.hid hb; clear hb J)
  go_ret
  exact ⟨rfl, HB.out⟩
end Go.Proofs.YtmfmohbcehkooaaGreatDoor
