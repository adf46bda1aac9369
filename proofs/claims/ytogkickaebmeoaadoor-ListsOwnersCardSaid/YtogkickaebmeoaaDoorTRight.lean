/-
  The program's Right of a list of paths, and the reference's: what each returns; nothing old turns. Condition of the program's: LaidP.
-/
import Derived.Test.YtogkickaebmeoaaDoorTRefP
import Derived.Test.YtogkickaebmeoaaDoorTHold
namespace Go.Proofs.YtogkickaebmeoaaDoor
open Go.RowKit
theorem box2 (W : World) (x y : Value) (t : TypeId) : (W.alloc (.cells #[x, y] t)).cell? ⟨W.heap.size, 0, none⟩ = some x ∧ (W.alloc (.cells #[x, y] t)).cell? ⟨W.heap.size, 1, none⟩ = some y := by
  have h := heap_alloc_new W (.cells #[x, y] t)
  exact ⟨by rw [cellRow _ W.heap.size 0 _ t (0, 0) h]; rfl, by rw [cellRow _ W.heap.size 1 _ t (0, 0) h]; rfl⟩
set_option maxRecDepth 100000 in
set_option maxHeartbeats 4000000 in
theorem right13_any (N : ByteArray) (hN : N.size ≤ 4000) (u : Value) (ps : List Bs) (hl : ps.length ≤ 90000) (hs : SmallP ps) (w : World) (hL : LaidP w) (h : HoldT w u ps) :
    Calls Tryd.prog 12 #[.agg #[.string N, u]] w fun e w' => e = .returned (.bool (right13 (N.data.toList, ps))) ∧ Below w.heap.size w w' := by
  have B0 := (Below.refl w.heap.size w).alloc (Nat.le_refl _) (.cells #[.string N, u] 24)
  have HB0 := Lib.hid B0
  have HX := Lib.hid (box2 w (.string N) u 24)
  have NM := fun W => name_any N hN W
  have KC := kcheckP_any u ps hl hs _ (hL.on B0) (h.on B0)
  unfold itF prF at KC
  obtain ⟨R, HR⟩ : ∃ R, Hid (right13 (N.data.toList, ps) = R) := ⟨_, rfl⟩
  rw [HR.out]
  unfold right13 at HR
  dsimp only at HR
  clear B0 h hL hs
  cases hn : nameB N.data.toList
  · have HF : Hid (false = R) := Lib.hid (by rw [← HR.out, hn, Bool.false_and])
    simp only [hn] at NM
    clear hn HR KC
    obtain ⟨x0, x1⟩ := HX.out
    go_enter Tryd.func12, Tryd.ntmps12
    go_wp2_with (go_at_call 44; refine (NM _).mono ?_; rintro e w1 ⟨rfl, rfl⟩)
    go_ret
    exact ⟨retb HF.out, HB0.out⟩
  · have HF : Hid (decide (chkP ps = 0) = R) := Lib.hid (by rw [← HR.out, hn, Bool.true_and])
    simp only [hn] at NM
    have hz := chkP_ways ps
    clear hn HR
    obtain ⟨x0, x1⟩ := HX.out
    generalize chkP ps = z at *
    rcases hz with rfl | rfl | rfl
    all_goals
      go_enter Tryd.func12, Tryd.ntmps12
      go_wp2_with (first
        | (go_at_call 44; refine (NM _).mono ?_; rintro e w1 ⟨rfl, rfl⟩)
        | (go_at_call 45; refine KC.mono ?_; rintro e w2 ⟨rfl, hb⟩; have HB2 := Lib.hid (HB0.out.trans (hb.mono HB0.out.size)); clear hb))
      go_ret
      exact ⟨retb HF.out, HB2.out⟩
set_option maxRecDepth 100000 in
set_option maxHeartbeats 4000000 in
theorem right13_ref (N : ByteArray) (hN : N.size ≤ 4000) (u : Value) (ps : List Bs) (hl : ps.length ≤ 90000) (hs : SmallP ps) (w : World) (h : HoldT w u ps) :
    Calls Tryd.prog 13 #[.agg #[.string N, u]] w fun e w' => e = .returned (.bool (right13 (N.data.toList, ps))) ∧ Below w.heap.size w w' := by
  have B0 := (Below.refl w.heap.size w).alloc (Nat.le_refl _) (.cells #[.string N, u] 24)
  have HB0 := Lib.hid B0
  have HX := Lib.hid (box2 w (.string N) u 24)
  have NM := fun W => name_ref N hN W
  have RI := fun W (hb : Below w.heap.size w W) => rising_any u ps hl W (h.on hb)
  obtain ⟨R, HR⟩ : ∃ R, Hid (right13 (N.data.toList, ps) = R) := ⟨_, rfl⟩
  rw [HR.out]
  have HBAD : Hid (∀ x ∈ ps, right x = false → false = R) := Lib.hid (fun x hx g => by
    rw [← HR.out]; unfold right13; dsimp only
    rw [decide_eq_false (fun q => by rw [(chkP_parts.1 q).1 x hx] at g; cases g), Bool.and_false])
  have HOK : Hid ((∀ x ∈ ps, right x = true) → (nameB N.data.toList && riseB ps) = R) := Lib.hid (fun g => by
    rw [← HR.out]; unfold right13; dsimp only
    congr 1
    cases hr : riseB ps
    · exact (decide_eq_false (fun q => by rw [(chkP_parts.1 q).2] at hr; cases hr)).symm
    · exact (decide_eq_true (chkP_parts.2 ⟨g, hr⟩)).symm)
  clear HR B0
  obtain ⟨a, c, b, o, rfl, hc, ha, hcell⟩ := h
  have HC := Lib.hid hcell
  have HS := Lib.hid hs
  obtain ⟨n, hn⟩ : ∃ n, ps.length = n := ⟨_, rfl⟩
  rw [hn] at hc ha hl HB0 HX RI ⊢
  have HN := Lib.hid hn
  clear hcell hn hs
  obtain ⟨x0, x1⟩ := HX.out
  go_enter Tryd.func13, Tryd.ntmps13
  go_wp2
  go_loopw [3] (fun i wr => ∃ k : Nat, k ≤ n ∧ i = .int .i64 k ∧ Hid (∀ (j : Nat) y, j < k → ps[j]? = some y → right y = true) ∧ wr.cell? ⟨w.heap.size, 0, none⟩ = some (.string N) ∧ wr.cell? ⟨w.heap.size, 1, none⟩ = some (.slice a n c) ∧ Hid (Below w.heap.size w wr)) (fun i _ => n - (intOf i).toNat)
  case atStart => exact ⟨0, by omega, rfl, Lib.hid (fun j y hj => by omega), x0, x1, HB0⟩
  case round =>
    clear x0 x1
    obtain ⟨k, hk, rfl, H, x0, x1, HB⟩ := hrel
    have hsz := HB.out.size
    by_cases hlt : k < n
    · obtain ⟨rfl, hbw⟩ := ha (by omega)
      obtain ⟨x, hx⟩ : ∃ x, ps[k]? = some x := ⟨_, List.getElem?_eq_getElem (by rw [HN.out]; exact hlt)⟩
      have c0 := HC.out k x hx
      rw [← HB.out.cell (p := ⟨b, o + k, none⟩) hbw] at c0
      have RA := right_ref ⟨x.toArray⟩ (by rw [sizeOf, bytesOf]; exact HS.out x (List.mem_of_getElem? hx)) wr
      rw [bytesOf] at RA
      have l0 := World.block_lt_of_cell? wr _ x0
      have HXX := Lib.hid (fun W (hb : Below wr.heap.size wr W) => And.intro ((hb.cell (p := ⟨w.heap.size, 0, none⟩) l0).trans x0) ((hb.cell (p := ⟨w.heap.size, 1, none⟩) l0).trans x1))
      cases hq : right x
      · have HF := Lib.hid (HBAD.out x (List.mem_of_getElem? hx) hq)
        rw [hq] at RA
        clear hq H HBAD HOK HC HS hx
        generalize (⟨x.toArray⟩ : ByteArray) = X at *
        go_wp2_with (go_at_call 48; refine RA.mono ?_; rintro e w3 ⟨rfl, hb⟩; have HB3 := Lib.hid (HB.out.trans (hb.mono hsz)); clear hb)
        go_ret
        exact ⟨retb HF.out, HB3.out⟩
      · rw [hq] at RA
        have HK : Hid (∀ (j : Nat) y, j < k + 1 → ps[j]? = some y → right y = true) := Lib.hid (fun j y hj hy => by
          by_cases e : j = k
          · subst e; rw [hx] at hy; cases hy; exact hq
          · exact H.out j y (by omega) hy)
        clear hq H HBAD HOK HC HS hx
        generalize (⟨x.toArray⟩ : ByteArray) = X at *
        go_wp2_with (go_at_call 48; refine RA.mono ?_; rintro e w3 ⟨rfl, hb⟩; have HB3 := Lib.hid (HB.out.trans (hb.mono hsz)); obtain ⟨y0, y1⟩ := HXX.out _ hb; clear hb)
        go_roundw
        case rel => exact ⟨k + 1, by omega, by go_num, HK, y0, y1, HB3⟩
        case measure => simp [intOf]; omega
    · obtain rfl : k = n := by omega
      have HF := Lib.hid (HOK.out (fun x hx => by
        obtain ⟨i, hi⟩ := List.mem_iff_getElem?.1 hx
        exact H.out i x (by have := (List.getElem?_eq_some_iff.1 hi).1; rw [HN.out] at this; exact this) hi))
      have RI2 := RI _ HB.out
      clear hlt H HBAD HOK HC HS RI
      generalize riseB ps = q at *
      cases hnm : nameB N.data.toList
      · simp only [hnm] at NM
        rw [hnm] at HF
        clear hnm
        go_wp2_with (go_at_call 49; refine (NM _).mono ?_; rintro e w1 ⟨rfl, rfl⟩)
        go_ret
        exact ⟨retb HF.out, HB.out⟩
      · simp only [hnm] at NM
        rw [hnm] at HF
        clear hnm
        go_wp2_with (first
          | (go_at_call 49; refine (NM _).mono ?_; rintro e w1 ⟨rfl, rfl⟩)
          | (go_at_call 50; (with_reducible refine RI2.mono ?_); rintro e w2 ⟨rfl, hb⟩; have HB2 := Lib.hid (HB.out.trans (hb.mono hsz)); clear hb))
        go_ret
        exact ⟨retb HF.out, HB2.out⟩
end Go.Proofs.YtogkickaebmeoaaDoor
