/-
  The reference's Rising, and its Right of a list of paths: what each returns; nothing old turns.
-/
import Derived.Test.YtogkickaebmeoaaDoorTCheckP
import Derived.Test.YtogkickaebmeoaaDoorPCleanRef
import Derived.Test.YtogkickaebmeoaaDoorPNameRef
namespace Go.Proofs.YtogkickaebmeoaaDoor
open Go.RowKit
def RiseP (l : List Bs) : Prop := ∀ (i : Nat) x y, l[i]? = some x → l[i + 1]? = some y → x < y
open Classical in
noncomputable def riseB (l : List Bs) : Bool := decide (RiseP l ∧ l.length ≤ 64)
open Classical in
theorem riseB_no {l : List Bs} (h : ¬ RiseP l) : riseB l = false := by unfold riseB; exact decide_eq_false (fun g => h g.1)
open Classical in
theorem riseB_len {l : List Bs} (h : RiseP l) : riseB l = decide (l.length ≤ 64) := by
  unfold riseB
  by_cases g : l.length ≤ 64
  · rw [decide_eq_true g, decide_eq_true ⟨h, g⟩]
  · rw [decide_eq_false g, decide_eq_false (fun q => g q.2)]
theorem chkP_parts {l : List Bs} : chkP l = 0 ↔ (∀ x ∈ l, right x = true) ∧ riseB l = true := by
  constructor
  · intro h
    obtain ⟨h1, h2⟩ := chkP_zero h
    refine ⟨fun x hx => ?_, ?_⟩
    · obtain ⟨i, hi⟩ := List.mem_iff_getElem?.1 hx
      exact (h2 i x hi).1
    · rw [riseB_len (fun i x y hx hy => (h2 (i + 1) y hy).2 x (by omega) hx), decide_eq_true h1]
  · rintro ⟨h1, h2⟩
    have hr : RiseP l := by
      by_cases g : RiseP l
      · exact g
      · rw [riseB_no g] at h2; cases h2
    rw [riseB_len hr] at h2
    have h3 := of_decide_eq_true h2
    refine chkP_ok (by omega) (fun i x hx => ⟨h1 x (List.mem_of_getElem? hx), fun y h0 hy => hr (i - 1) y x hy (by rw [show i - 1 + 1 = i by omega]; exact hx)⟩)
set_option maxRecDepth 100000 in
set_option maxHeartbeats 4000000 in
theorem rising_any (v : Value) (l : List Bs) (hl : l.length ≤ 90000) (w : World) (h : HoldT w v l) : Calls Tryd.prog 50 #[v] w fun e w' => e = .returned (.bool (riseB l)) ∧ Below w.heap.size w w' := by
  obtain ⟨a, c, b, o, rfl, hc, ha, hcell⟩ := h
  have HC := Lib.hid hcell
  obtain ⟨Z, HZ⟩ : ∃ Z, Hid (riseB l = Z) := ⟨_, rfl⟩
  rw [HZ.out]
  obtain ⟨n, hN⟩ : ∃ n, l.length = n := ⟨_, rfl⟩
  rw [hN] at hc ha hl ⊢
  have HN := Lib.hid hN
  clear hcell hN
  have HBAD : Hid (∀ (i : Nat) x y, l[i]? = some x → l[i + 1]? = some y → ¬ x < y → false = Z) := Lib.hid (fun i x y hx hy g => by rw [← HZ.out, riseB_no (fun q => g (q i x y hx hy))])
  have HOK : Hid (RiseP l → decide (n ≤ 64) = Z) := Lib.hid (fun g => by rw [← HZ.out, riseB_len g, HN.out])
  clear HZ
  go_enter Tryd.func50, Tryd.ntmps50
  go_wp2
  go_loopw [3] (fun i wr => ∃ k : Nat, k ≤ n ∧ i = .int .i64 ((k : Int) + 1) ∧ Hid (∀ (j : Nat) x y, j < k → l[j]? = some x → l[j + 1]? = some y → x < y) ∧ Hid (Below w.heap.size w wr)) (fun i _ => n + 1 - (intOf i).toNat)
  case atStart => exact ⟨0, by omega, rfl, Lib.hid (fun j x y hj => by omega), Lib.hid (Below.refl _ _)⟩
  case round =>
    obtain ⟨k, hk, rfl, H, HB⟩ := hrel
    by_cases hlt : k + 1 < n
    · obtain ⟨rfl, hbw⟩ := ha (by omega)
      obtain ⟨x, hx⟩ : ∃ x, l[k]? = some x := ⟨_, List.getElem?_eq_getElem (by rw [HN.out]; omega)⟩
      obtain ⟨y, hy⟩ : ∃ y, l[k + 1]? = some y := ⟨_, List.getElem?_eq_getElem (by rw [HN.out]; exact hlt)⟩
      have c0 := HC.out k x hx
      have c1 := HC.out (k + 1) y hy
      rw [← HB.out.cell (p := ⟨b, o + k, none⟩) hbw] at c0
      rw [← HB.out.cell (p := ⟨b, o + (k + 1), none⟩) hbw] at c1
      have hls := lessT ⟨x.toArray⟩ ⟨y.toArray⟩
      rw [bytesOf, bytesOf] at hls
      have i1 : ((k : Int) + 1) < (n : Int) := by omega
      have i2 : ((k : Int) + 1).toNat = k + 1 := by omega
      have i3 : IntKind.i64.wrap ((k : Int) + 1 - 1) = (k : Int) := by rw [show (k : Int) + 1 - 1 = k by omega]; exact IntWalk.i64_in _ (by omega)
      have i4 : (0 : Int) ≤ (k : Int) + 1 := by omega
      have i5 : (k : Int) < (n : Int) := by omega
      have i6 : IntKind.i64.wrap ((k : Int) + 1 + 1) = (k : Int) + 1 + 1 := IntWalk.i64_in _ (by omega)
      by_cases hlx : x < y
      · rw [decide_eq_true hlx] at hls
        have HK : Hid (∀ (j : Nat) u v, j < k + 1 → l[j]? = some u → l[j + 1]? = some v → u < v) := Lib.hid (fun j u v hj hu hv => by
          by_cases e : j = k
          · subst e
            rw [hx] at hu; rw [hy] at hv; cases hu; cases hv; exact hlx
          · exact H.out j u v (by omega) hu hv)
        clear H HBAD HC hx hy hlx
        generalize (⟨x.toArray⟩ : ByteArray) = X at *
        generalize (⟨y.toArray⟩ : ByteArray) = Y at *
        go_wp2
        go_quiet (fail)
        have HB2 := Lib.hid (belowQ HB.out nq)
        go_wp2
        go_roundw
        case rel => exact ⟨k + 1, by omega, by go_num, HK, HB2⟩
        case measure => simp [intOf]; omega
      · rw [decide_eq_false hlx] at hls
        have HF := Lib.hid (HBAD.out k x y hx hy hlx)
        clear H HBAD HC hx hy hlx
        generalize (⟨x.toArray⟩ : ByteArray) = X at *
        generalize (⟨y.toArray⟩ : ByteArray) = Y at *
        go_wp2
        go_quiet (fail)
        have HB2 := Lib.hid (belowQ HB.out nq)
        go_wp2
        go_ret
        exact ⟨retb HF.out, HB2.out⟩
    · have HF := Lib.hid (HOK.out (fun i x y hx hy => H.out i x y (by have := (List.getElem?_eq_some_iff.1 hy).1; rw [HN.out] at this; omega) hx hy))
      have i1 : ¬ ((k : Int) + 1) < (n : Int) := by omega
      have hd : decide ((n : Int) ≤ 64) = decide (n ≤ 64) := by by_cases g : n ≤ 64 <;> simp [g] <;> omega
      clear hlt H HBAD HOK
      generalize decide (n ≤ 64) = q at *
      go_wp2
      go_ret
      exact ⟨retb HF.out, HB.out⟩
end Go.Proofs.YtogkickaebmeoaaDoor
