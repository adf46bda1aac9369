/-
  The program's Holds and Best: what each returns; nothing old turns. Condition: LaidV.
-/
import Derived.Test.YtldmlcgdolfidaaDoorVPCompare
import Derived.Test.YtldmlcgdolfidaaDoorVPText
import Derived.Test.YtldmlcgdolfidaaDoorVHolds
import Derived.Test.YtldmlcgdolfidaaDoorLList
import Derived.Test.YtldmlcgdolfidaaDoorVBest
namespace Go.Proofs.YtldmlcgdolfidaaDoor
open Go.RowKit
set_option maxRecDepth 100000 in
set_option maxHeartbeats 8000000 in
theorem holds_any (a op b : ByteArray) (ha : a.size ≤ 1000) (hb : b.size ≤ 1000) (w : World) (h : LaidV w) :
    Calls Tryd.prog 18 #[.string a, .string op, .string b] w fun e w' => e = .returned (.bool (holdsV a.data.toList op.data.toList b.data.toList)) ∧ Below w.heap.size w w' := by
  have C := compare_any a b ha hb w h
  clear h
  rw [holdsV_is]
  have vc := compareV_good.vals a.data.toList b.data.toList
  generalize compareV a.data.toList b.data.toList = c at *
  obtain ⟨R, HR⟩ : ∃ R, Hid (holdsB c op.data.toList = R) := ⟨_, rfl⟩
  rw [HR.out]
  have s0 := emptyL op
  have s1 := eqTL op [60, 60]
  have s2 := eqTL op [60, 61]
  have s3 := eqTL op [61]
  have s4 := eqTL op [62, 61]
  have s5 := eqTL op [62, 62]
  have ways : op.data.toList = [] ∨ op.data.toList = [60, 60] ∨ op.data.toList = [60, 61] ∨ op.data.toList = [61] ∨ op.data.toList = [62, 61] ∨ op.data.toList = [62, 62] ∨ (op.data.toList ≠ [] ∧ op.data.toList ≠ [60, 60] ∧ op.data.toList ≠ [60, 61] ∧ op.data.toList ≠ [61] ∧ op.data.toList ≠ [62, 61] ∧ op.data.toList ≠ [62, 62]) := by
    by_cases h0 : op.data.toList = []
    · exact .inl h0
    · by_cases h1 : op.data.toList = [60, 60]
      · exact .inr (.inl h1)
      · by_cases h2 : op.data.toList = [60, 61]
        · exact .inr (.inr (.inl h2))
        · by_cases h3 : op.data.toList = [61]
          · exact .inr (.inr (.inr (.inl h3)))
          · by_cases h4 : op.data.toList = [62, 61]
            · exact .inr (.inr (.inr (.inr (.inl h4))))
            · by_cases h5 : op.data.toList = [62, 62]
              · exact .inr (.inr (.inr (.inr (.inr (.inl h5)))))
              · exact .inr (.inr (.inr (.inr (.inr (.inr ⟨h0, h1, h2, h3, h4, h5⟩)))))
  rcases ways with h | h | h | h | h | h | ⟨h, h1, h2, h3, h4, h5⟩
  case' inr.inr.inr.inr.inr.inr =>
    rw [decide_eq_false h] at s0
    rw [decide_eq_false h1] at s1
    rw [decide_eq_false h2] at s2
    rw [decide_eq_false h3] at s3
    rw [decide_eq_false h4] at s4
    rw [decide_eq_false h5] at s5
    have HF : Hid (false = R) := Lib.hid (by rw [← HR.out]; unfold holdsB; simp [h, h1, h2, h3, h4, h5])
    clear h h1 h2 h3 h4 h5 HR vc
    go_enter Tryd.func18, Tryd.ntmps18
    go_wp2_with (first | (go_at_call 13; refine C.mono ?_; rintro e w1 ⟨rfl, hb1⟩))
    go_ret
    first | exact ⟨retb HF.out, hb1⟩ | exact ⟨retb HF.out, Below.refl _ _⟩
  all_goals
    obtain rfl := strOf h
    clear h s0 s1 s2 s3 s4 s5
    rcases vc with vc | vc | vc
    all_goals
      subst vc
      go_enter Tryd.func18, Tryd.ntmps18
      go_wp2_with (first | (go_at_call 13; refine C.mono ?_; rintro e w1 ⟨rfl, hb1⟩))
      go_ret
      first | exact ⟨retb (by rw [← HR.out]; decide), hb1⟩ | exact ⟨retb (by rw [← HR.out]; decide), Below.refl _ _⟩
theorem BOn {b i j : Nat} {x y : ByteArray} {w W W1 : World} (h : W.cell? ⟨b, i, none⟩ = some (.string x) ∧ W.cell? ⟨b, j, none⟩ = some (.string y) ∧ Below w.heap.size w W) (hb : Below W.heap.size W W1) :
    W1.cell? ⟨b, i, none⟩ = some (.string x) ∧ W1.cell? ⟨b, j, none⟩ = some (.string y) ∧ Below w.heap.size w W1 := by
  have l := World.block_lt_of_cell? W _ h.1
  exact ⟨by rw [hb.cell (p := ⟨b, i, none⟩) l]; exact h.1, by rw [hb.cell (p := ⟨b, j, none⟩) l]; exact h.2.1, h.2.2.trans (hb.mono h.2.2.size)⟩
theorem BDr {b i j : Nat} {x y : ByteArray} {w W : World} (h : W.cell? ⟨b, i, none⟩ = some (.string x) ∧ W.cell? ⟨b, j, none⟩ = some (.string y) ∧ Below w.heap.size w W) :
    W.drew.cell? ⟨b, i, none⟩ = some (.string x) ∧ W.drew.cell? ⟨b, j, none⟩ = some (.string y) ∧ Below w.heap.size w W.drew := BOn h (Below.refl _ _).drew
set_option maxRecDepth 100000 in
set_option maxHeartbeats 8000000 in
theorem best_any (v : Value) (ls : List Bs) (hl : ls.length ≤ 40) (hs : ∀ l ∈ ls, l.length ≤ 200) (w : World) (h : HoldT w v ls) (hlaid : LaidV w) : Calls Tryd.prog 20 #[v] w fun e w' => ∃ z, e = .returned (.int .i64 z) ∧ BestOk ls z ∧ Below w.heap.size w w' := by
  have HL := Lib.hid hlaid
  have HS := Lib.hid hs
  obtain ⟨a, c, b, o, rfl, hc, ha, hcell⟩ := h
  have HCL := Lib.hid hcell
  obtain ⟨n, hn⟩ : ∃ n, ls.length = n := ⟨_, rfl⟩
  have HN := Lib.hid hn
  rw [hn] at hc ha hl ⊢
  clear hn hcell hs hlaid
  go_enter Tryd.func20, Tryd.ntmps20
  go_wp2
  go_loopw [3, 7] (fun s3 i wr => ∃ (k : Nat) (z : Int), k ≤ n ∧ i = .int .i64 k ∧ s3 = .int .i64 z ∧ Hid (BestTo ls k z) ∧ Hid (Below w.heap.size w wr)) (fun _ i _ => n - (intOf i).toNat)
  case atStart => exact ⟨0, -1, by omega, rfl, rfl, Lib.hid (BestTo.start ls), Lib.hid (Below.refl _ _)⟩
  case round =>
    obtain ⟨k, z, hk, rfl, rfl, H, HB⟩ := hrel
    by_cases hlt : k < n
    · obtain ⟨rfl, hbw⟩ := ha (by omega)
      have hkl : k < ls.length := by rw [HN.out]; exact hlt
      obtain ⟨x, hx, hcx⟩ : ∃ x : ByteArray, x.data.toList = ls[k] ∧ wr.cell? ⟨b, o + k, none⟩ = some (.string x) := ⟨⟨(ls[k]).toArray⟩, by simp, (HB.out.cell (p := ⟨b, o + k, none⟩) hbw).trans (HCL.out k _ (List.getElem?_eq_getElem hkl))⟩
      have hxs : x.size ≤ 1000 := by rw [sizeOf, hx]; have := HS.out _ (List.getElem_mem hkl); omega
      have HT := H.out
      unfold BestTo at HT
      rcases HT with ⟨h0, rfl⟩ | ⟨t, rfl, htk, htl, hb⟩
      · subst h0
        have HF := Lib.hid (BestTo.first hkl)
        clear H hx
        go_wp2
        go_quiet (fail)
        go_wp2
        go_roundw
        case rel => exact ⟨1, 0, by omega, by go_num, rfl, HF, Lib.hid (belowQ HB.out _)⟩
        case measure => simp [intOf]; omega
      · obtain ⟨y, hy, hcy⟩ : ∃ y : ByteArray, y.data.toList = ls[t] ∧ wr.cell? ⟨b, o + t, none⟩ = some (.string y) := ⟨⟨(ls[t]).toArray⟩, by simp, (HB.out.cell (p := ⟨b, o + t, none⟩) hbw).trans (HCL.out t _ (List.getElem?_eq_getElem htl))⟩
        have hys : y.size ≤ 1000 := by rw [sizeOf, hy]; have := HS.out _ (List.getElem_mem htl); omega
        have CC := fun (w' : World) (hw : LaidV w') => compare_any x y hxs hys w' hw
        have HL2 := Lib.hid (HL.out.on HB.out)
        have hkeep := fun g => H.out.keep hkl htl g
        have hmore := fun g => H.out.more hkl htl g
        rw [← hx, ← hy] at hkeep hmore
        have hv := compareV_good.vals x.data.toList y.data.toList
        generalize compareV x.data.toList y.data.toList = q at *
        have hgn : decide ((t : Int) < 0) = false := decide_eq_false (by omega)
        by_cases hq : 0 < q
        · have HF := Lib.hid (hmore hq)
          have hq1 : q = 1 := by omega
          subst hq1
          clear H hx hy hb hkeep hmore hv hq hkl htl
          go_wp2
          have hin0 : (0 : Int) ≤ k := by omega
          have hin1 : (k : Int) < n := by omega
          have hin2 : (0 : Int) ≤ t := by omega
          have hin3 : (t : Int) < n := by omega
          have hb0 := HB.out
          have CD := CC wr.drew (HL2.out.on (Below.refl _ _).drew)
          clear CC
          go_region_held3 (fun W => W.cell? ⟨b, o + k, none⟩ = some (.string x) ∧ W.cell? ⟨b, o + t, none⟩ = some (.string y) ∧ Below w.heap.size w W)
            (first | assumption | exact ⟨hcx, hcy, hb0⟩ | exact BOn (by assumption) (by assumption) | exact BDr ⟨hcx, hcy, hb0⟩)
            ((go_at_call 13; refine CD.mono ?_; rintro e w2 ⟨rfl, hb⟩))
          all_goals
            rename_i hHeld
            have HBN := Lib.hid hHeld.2.2
            clear hHeld
            go_wp2
            go_roundw
            case rel => exact ⟨k + 1, k, by omega, by go_num, rfl, HF, HBN⟩
            case measure => simp [intOf]; omega
        · have HF := Lib.hid (hkeep (by omega))
          have hq1 : q ≤ 0 := by omega
          clear H hx hy hb hkeep hmore hv hq hkl htl
          go_wp2
          have hin0 : (0 : Int) ≤ k := by omega
          have hin1 : (k : Int) < n := by omega
          have hin2 : (0 : Int) ≤ t := by omega
          have hin3 : (t : Int) < n := by omega
          have hb0 := HB.out
          have CD := CC wr.drew (HL2.out.on (Below.refl _ _).drew)
          clear CC
          go_region_held3 (fun W => W.cell? ⟨b, o + k, none⟩ = some (.string x) ∧ W.cell? ⟨b, o + t, none⟩ = some (.string y) ∧ Below w.heap.size w W)
            (first | assumption | exact ⟨hcx, hcy, hb0⟩ | exact BOn (by assumption) (by assumption) | exact BDr ⟨hcx, hcy, hb0⟩)
            ((go_at_call 13; refine CD.mono ?_; rintro e w2 ⟨rfl, hb⟩))
          all_goals
            rename_i hHeld
            have HBN := Lib.hid hHeld.2.2
            clear hHeld
            go_wp2
            go_roundw
            case rel => exact ⟨k + 1, t, by omega, by go_num, rfl, HF, HBN⟩
            case measure => simp [intOf]; omega
    · obtain rfl : k = n := by omega
      have HO : Hid (BestOk ls z) := Lib.hid (by have := H.out; rw [← HN.out] at this; exact this.done)
      clear H hlt
      go_wp2
      go_ret
      exact ⟨z, rfl, HO.out, HB.out⟩
end Go.Proofs.YtldmlcgdolfidaaDoor
