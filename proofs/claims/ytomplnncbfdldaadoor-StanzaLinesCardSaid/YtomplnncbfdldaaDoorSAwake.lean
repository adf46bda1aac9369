/-
  cellarerlaw06's awake: true; nothing old turns.
-/
import Derived.Test.YtomplnncbfdldaaDoorSProg
namespace Go.Proofs.YtomplnncbfdldaaDoor
open Go.RowKit
abbrev exS : Bs := [65, 58, 32, 98, 10, 32, 99, 10]
abbrev exL : List (List Fld) := [[([65], [98, 10, 99])]]
theorem ex_sparse : parseS exS = some exL := by decide +kernel
theorem ex_print : printE exL = (exS, 0) := parse_print ex_sparse
theorem ex_field : fieldB ([65], [98, 10, 99]) = true := by decide +kernel
theorem parse_small {s : Bs} {l : List (List Fld)} (h : parseS s = some l) : Small l (4 * (s.length + 1) + 1) := by
  unfold parseS at h
  split at h
  · cases h
  · rename_i ls hls
    split at h
    · cases h
    · rename_i l' hl'
      split at h
      · cases h
        unfold linesO at hls
        split at hls
        · simp only [Option.some.injEq] at hls
          unfold parseL at hl'
          split at hl'
          · cases hl'
          · rename_i out at' hf
            simp only [Option.some.injEq] at hl'
            subst hl'
            split
            · have := fold_small hls.symm hf
              exact small_of (by omega)
            · exact fold_small' (k := ls.length) hls.symm (by rw [List.take_length]; exact hf)
        · cases hls
      · cases h
theorem ex_held {w : World} {v : Value} (h : HoldRR 2 w v (exL.map (·.map rowF))) : ∃ (b o c b2 o2 c2 : Nat), v = .slice (some ⟨b, o, none⟩) 1 c ∧ w.cell? ⟨b, o, none⟩ = some (.slice (some ⟨b2, o2, none⟩) 1 c2) ∧ w.cell? ⟨b2, o2 + 1, none⟩ = some (.string ⟨#[98, 10, 99]⟩) := by
  obtain ⟨a, c, b, o, rfl, hc, ha, hcell⟩ := h
  obtain ⟨rfl, hb⟩ := ha (by decide)
  obtain ⟨u, hu, hr⟩ := hcell 0 _ rfl
  obtain ⟨a2, c2, b2, o2, rfl, hc2, ha2, hcell2⟩ := hr
  obtain ⟨rfl, hb2⟩ := ha2 (by decide)
  have h1 := hcell2 0 _ rfl 1 _ (by omega) rfl
  exact ⟨b, o, c, b2, o2, c2, rfl, hu, h1⟩
set_option maxRecDepth 100000 in
set_option maxHeartbeats 4000000 in
theorem sawake (w : World) : Calls Tryd.prog 4 #[] w fun e w' => e = .returned (.bool true) ∧ Below w.heap.size w w' := by
  have P := fun w => sparse_any ⟨#[65, 58, 32, 98, 10, 32, 99, 10]⟩ (by decide) w
  have F := fun w => field_any ⟨#[65]⟩ ⟨#[98, 10, 99]⟩ (by decide) (by decide) w
  have R := fun v w => print_any v exL ⟨by decide, by decide, by decide, by decide +kernel⟩ w
  unfold PrintPost at R
  rw [ex_print] at R
  simp only [ex_field] at F
  have HX : ∀ (v : Value) (z : Int) (w' : World), (∀ l, parseS exS = some l → z = 0 ∧ HoldRR 2 w' v (l.map (·.map rowF))) → z = 0 ∧ HoldRR 2 w' v (exL.map (·.map rowF)) := fun v z w' h => h _ ex_sparse
  have HXX := Lib.hid HX
  clear HX
  go_enter Tryd.func4, Tryd.ntmps4
  go_wp2_with (first
    | (go_at_call 10; (with_reducible refine (P _).mono ?_); rintro e w1 ⟨v, z, rfl, hp, -, hb⟩; obtain ⟨rfl, hh⟩ := HXX.out v z w1 hp; have HH := Lib.hid hh; obtain ⟨b, o, c, b2, o2, c2, rfl, hc1, hc2⟩ := ex_held hh; have HB := Lib.hid hb; clear hp hb hh P)
    | (go_at_call 11; (with_reducible refine (R _ _ HH.out).mono ?_); rintro e w2 ⟨rfl, hb⟩; have hd1 : w2.cell? ⟨b, o, none⟩ = some (.slice (some ⟨b2, o2, none⟩) 1 c2) := (hb.cell (World.block_lt_of_cell? _ _ hc1)).trans hc1; have hd2 : w2.cell? ⟨b2, o2 + 1, none⟩ = some (.string ⟨#[98, 10, 99]⟩) := (hb.cell (World.block_lt_of_cell? _ _ hc2)).trans hc2; have HB2 := Lib.hid (HB.out.trans (hb.mono HB.out.size)); clear hb R)
    | (go_at_call 12; (with_reducible refine (F _).mono ?_); rintro e w3 ⟨rfl, hb⟩; have HB3 := Lib.hid (HB2.out.trans (hb.mono HB2.out.size)); clear hb F))
  go_ret
  exact ⟨rfl, HB3.out⟩
end Go.Proofs.YtomplnncbfdldaaDoor
