/-
  The program's keyed.Check over names, and the reference's Names and Rising: what each returns; nothing turns but draws.
-/
import Derived.Test.YtceohgjfjndcmaaGreatDoorGSmall
namespace Go.Proofs.YtceohgjfjndcmaaGreatDoor
open Go.RowKit
def SmallT (l : List Bs) : Prop := ∀ x ∈ l, x.length ≤ 4000
theorem itself_any (s : ByteArray) (w : World) : Calls Tryz.prog 79 #[.string s] w fun e w' => e = .returned (.string s) ∧ w = w' := by
  go_enter Tryz.func79, Tryz.ntmps79
  go_wp2
  go_ret
  exact ⟨rfl, rfl⟩
abbrev itF : Value := .func (.func 79) #[] #[]
abbrev nmF : Value := .func (.func 69) #[] #[]
set_option maxRecDepth 100000 in
set_option maxHeartbeats 8000000 in
theorem kchkN_any (v : Value) (l : List Bs) (hl : l.length ≤ 90000) (hs : SmallT l) (w : World) (h : HoldT w v l) :
    Calls Tryz.prog 78 #[v, itF, nmF] w fun e w' => e = .returned (.int .i64 (chkG nameB l)) ∧ w = w' := by
  obtain ⟨a, c, b, o, rfl, hc, ha, hcell⟩ := h
  unfold itF nmF
  have HC := Lib.hid hcell
  have HS := Lib.hid hs
  have IT := fun s W => itself_any s W
  obtain ⟨Z, HZ⟩ : ∃ Z, Hid (chkG nameB l = Z) := ⟨_, rfl⟩
  rw [HZ.out]
  obtain ⟨n, hN⟩ : ∃ n, l.length = n := ⟨_, rfl⟩
  rw [hN] at hc ha hl ⊢
  have HN := Lib.hid hN
  clear hcell hs hN
  by_cases h64 : 64 < n
  · have HF : Hid ((22 : Int) = Z) := Lib.hid (by rw [← HZ.out, chkG_long (by rw [HN.out]; exact h64)])
    go_enter Tryz.func78, Tryz.ntmps78
    go_wp2
    go_ret
    exact ⟨reti HF.out, rfl⟩
  have HBAD : Hid (∀ (i : Nat) x, l[i]? = some x → ¬ stepG nameB l i x → (1 : Int) = Z) := Lib.hid (fun i x hx g => by rw [← HZ.out, chkG_no (by rw [HN.out]; exact h64) (fun q => g (q i x hx))])
  have HOK : Hid (StepsG nameB l → (0 : Int) = Z) := Lib.hid (fun g => by rw [← HZ.out, chkG_ok (by rw [HN.out]; exact h64) g])
  clear HZ
  go_enter Tryz.func78, Tryz.ntmps78
  go_wp2
  go_loop [14] (fun i => ∃ k : Nat, k ≤ n ∧ i = .int .i64 k ∧ Hid (∀ (j : Nat) y, j < k → l[j]? = some y → stepG nameB l j y)) (fun i => n - (intOf i).toNat)
  case atStart => exact ⟨0, by omega, rfl, Lib.hid (fun j y hj => by omega)⟩
  case round =>
    obtain ⟨k, hk, rfl, H⟩ := hrel
    by_cases hlt : k < n
    · obtain ⟨rfl, hbw⟩ := ha (by omega)
      obtain ⟨x, hx⟩ : ∃ x, l[k]? = some x := ⟨_, List.getElem?_eq_getElem (by rw [HN.out]; exact hlt)⟩
      have c0 := HC.out k x hx
      have NM := fun W => name_any ⟨x.toArray⟩ (by rw [sizeOf, bytesOf]; exact HS.out x (List.mem_of_getElem? hx)) W
      have HX := Lib.hid hx
      rw [bytesOf] at NM
      cases hq : nameB x
      · have HF := Lib.hid (HBAD.out k x HX.out (fun g => by rw [g.1] at hq; cases hq))
        rw [hq] at NM
        clear hq H HBAD HOK HC HS HX hx
        generalize (⟨x.toArray⟩ : ByteArray) = X at *
        go_wp2_with (go_at_call 69; (with_reducible refine (NM _).mono ?_); rintro e w3 ⟨rfl, rfl⟩)
        go_ret
        exact ⟨reti HF.out, rfl⟩
      · rw [hq] at NM
        by_cases hk0 : 0 < k
        · obtain ⟨y, hy⟩ : ∃ y, l[k - 1]? = some y := ⟨_, List.getElem?_eq_getElem (by rw [HN.out]; omega)⟩
          have hls := lessT ⟨y.toArray⟩ ⟨x.toArray⟩
          rw [bytesOf, bytesOf] at hls
          have e0 := HC.out (k - 1) y hy
          have hBAD : Hid (¬ y < x → (1 : Int) = Z) := Lib.hid (fun g => HBAD.out k x HX.out (fun q => g (q.2 y hk0 hy)))
          have HNX : Hid (y < x → ∀ (j : Nat) u, j < k + 1 → l[j]? = some u → stepG nameB l j u) := Lib.hid (fun g j u hj hu => by
            by_cases ej : j = k
            · subst ej
              rw [HX.out] at hu; cases hu
              exact ⟨hq, fun u h1 h2 => by rw [hy] at h2; cases h2; exact g⟩
            · exact H.out j u (by omega) hu)
          have i0 : (0 : Int) ≤ (k : Int) - 1 := by omega
          have i1 : (k : Int) - 1 < (n : Int) := by omega
          have i2 : ((k : Int) - 1).toNat = k - 1 := by omega
          have i3 : IntKind.i64.wrap ((k : Int) - 1) = (k : Int) - 1 := IntWalk.i64_in _ (by omega)
          have i4 : (0 : Int) < (k : Int) := by omega
          by_cases hlx : y < x
          · rw [decide_eq_true hlx] at hls
            have HK := Lib.hid (HNX.out hlx)
            clear hq H HBAD HC HS HX hx hy hBAD HNX hlx
            generalize (⟨x.toArray⟩ : ByteArray) = X at *
            generalize (⟨y.toArray⟩ : ByteArray) = Y at *
            go_wp2_with (first
              | (go_at_call 69; (with_reducible refine (NM _).mono ?_); rintro e w3 ⟨rfl, rfl⟩)
              | (go_at_call 79; refine (IT _ _).mono ?_; rintro e w4 ⟨rfl, rfl⟩))
            go_round
            case rel => exact ⟨k + 1, by omega, by go_num, HK⟩
            case measure => simp [intOf]; omega
          · rw [decide_eq_false hlx] at hls
            have HF := Lib.hid (hBAD.out hlx)
            clear hq H HBAD HC HS HX hx hy hBAD HNX hlx
            generalize (⟨x.toArray⟩ : ByteArray) = X at *
            generalize (⟨y.toArray⟩ : ByteArray) = Y at *
            go_wp2_with (first
              | (go_at_call 69; (with_reducible refine (NM _).mono ?_); rintro e w3 ⟨rfl, rfl⟩)
              | (go_at_call 79; refine (IT _ _).mono ?_; rintro e w4 ⟨rfl, rfl⟩))
            go_ret
            exact ⟨reti HF.out, rfl⟩
        · have i4 : ¬ (0 : Int) < (k : Int) := by omega
          have HK : Hid (∀ (j : Nat) u, j < k + 1 → l[j]? = some u → stepG nameB l j u) := Lib.hid (fun j u hj hu => by
            obtain rfl : j = k := by omega
            rw [HX.out] at hu; cases hu
            exact ⟨hq, fun u h1 h2 => by omega⟩)
          clear hq H HBAD HC HS HX hx hk0
          generalize (⟨x.toArray⟩ : ByteArray) = X at *
          go_wp2_with (go_at_call 69; (with_reducible refine (NM _).mono ?_); rintro e w3 ⟨rfl, rfl⟩)
          go_round
          case rel => exact ⟨k + 1, by omega, by go_num, HK⟩
          case measure => simp [intOf]; omega
    · obtain rfl : k = n := by omega
      have HF := Lib.hid (HOK.out (fun i x hx => H.out i x (by have := (List.getElem?_eq_some_iff.1 hx).1; rw [HN.out] at this; exact this) hx))
      clear hlt H HBAD HOK
      go_wp2
      go_ret
      exact ⟨reti HF.out, rfl⟩
def RiseP (l : List Bs) : Prop := ∀ (i : Nat) x y, l[i]? = some x → l[i + 1]? = some y → x < y
open Classical in
noncomputable def riseB (l : List Bs) : Bool := decide (RiseP l ∧ l.length ≤ 64)
open Classical in
theorem riseB_no {l : List Bs} (h : ¬ RiseP l) : riseB l = false := by unfold riseB; exact decide_eq_false (fun g => h g.1)
open Classical in
theorem riseB_len {l : List Bs} (h : RiseP l) : riseB l = decide (l.length ≤ 64) := by
  unfold riseB
  by_cases g : l.length ≤ 64
  · rw [decide_eq_true g, decide_eq_true ⟨h, g⟩]
  · rw [decide_eq_false g, decide_eq_false (fun q => g q.2)]
theorem chkG_parts {p : Bs → Bool} {l : List Bs} : chkG p l = 0 ↔ (∀ x ∈ l, p x = true) ∧ riseB l = true := by
  constructor
  · intro h
    obtain ⟨h1, h2⟩ := chkG_zero h
    refine ⟨fun x hx => ?_, ?_⟩
    · obtain ⟨i, hi⟩ := List.mem_iff_getElem?.1 hx
      exact (h2 i x hi).1
    · rw [riseB_len (fun i x y hx hy => (h2 (i + 1) y hy).2 x (by omega) hx), decide_eq_true h1]
  · rintro ⟨h1, h2⟩
    have hr : RiseP l := by
      by_cases g : RiseP l
      · exact g
      · rw [riseB_no g] at h2; cases h2
    rw [riseB_len hr] at h2
    have h3 := of_decide_eq_true h2
    refine chkG_ok (by omega) (fun i x hx => ⟨h1 x (List.mem_of_getElem? hx), fun y h0 hy => hr (i - 1) y x hy (by rw [show i - 1 + 1 = i by omega]; exact hx)⟩)
set_option maxRecDepth 100000 in
set_option maxHeartbeats 4000000 in
theorem rising_ref (v : Value) (l : List Bs) (hl : l.length ≤ 90000) (w : World) (h : HoldT w v l) : Calls Tryz.prog 49 #[v] w fun e w' => e = .returned (.bool (riseB l)) ∧ Below w.heap.size w w' := by
  obtain ⟨a, c, b, o, rfl, hc, ha, hcell⟩ := h
  have HC := Lib.hid hcell
  obtain ⟨Z, HZ⟩ : ∃ Z, Hid (riseB l = Z) := ⟨_, rfl⟩
  rw [HZ.out]
  obtain ⟨n, hN⟩ : ∃ n, l.length = n := ⟨_, rfl⟩
  rw [hN] at hc ha hl ⊢
  have HN := Lib.hid hN
  clear hcell hN
  have HBAD : Hid (∀ (i : Nat) x y, l[i]? = some x → l[i + 1]? = some y → ¬ x < y → false = Z) := Lib.hid (fun i x y hx hy g => by rw [← HZ.out, riseB_no (fun q => g (q i x y hx hy))])
  have HOK : Hid (RiseP l → decide (n ≤ 64) = Z) := Lib.hid (fun g => by rw [← HZ.out, riseB_len g, HN.out])
  clear HZ
  go_enter Tryz.func49, Tryz.ntmps49
  go_wp2
  go_loopw [3] (fun i wr => ∃ k : Nat, k ≤ n ∧ i = .int .i64 ((k : Int) + 1) ∧ Hid (∀ (j : Nat) x y, j < k → l[j]? = some x → l[j + 1]? = some y → x < y) ∧ Hid (Below w.heap.size w wr)) (fun i _ => n + 1 - (intOf i).toNat)
  case atStart => exact ⟨0, by omega, rfl, Lib.hid (fun j x y hj => by omega), Lib.hid (Below.refl _ _)⟩
  case round =>
    obtain ⟨k, hk, rfl, H, HB⟩ := hrel
    by_cases hlt : k + 1 < n
    · obtain ⟨rfl, hbw⟩ := ha (by omega)
      obtain ⟨x, hx⟩ : ∃ x, l[k]? = some x := ⟨_, List.getElem?_eq_getElem (by rw [HN.out]; omega)⟩
      obtain ⟨y, hy⟩ : ∃ y, l[k + 1]? = some y := ⟨_, List.getElem?_eq_getElem (by rw [HN.out]; exact hlt)⟩
      have c0 := HC.out k x hx
      have c1 := HC.out (k + 1) y hy
      rw [← HB.out.cell (p := ⟨b, o + k, none⟩) hbw] at c0
      rw [← HB.out.cell (p := ⟨b, o + (k + 1), none⟩) hbw] at c1
      have hls := lessT ⟨x.toArray⟩ ⟨y.toArray⟩
      rw [bytesOf, bytesOf] at hls
      have i1 : ((k : Int) + 1) < (n : Int) := by omega
      have i2 : ((k : Int) + 1).toNat = k + 1 := by omega
      have i3 : IntKind.i64.wrap ((k : Int) + 1 - 1) = (k : Int) := by rw [show (k : Int) + 1 - 1 = k by omega]; exact IntWalk.i64_in _ (by omega)
      have i4 : (0 : Int) ≤ (k : Int) + 1 := by omega
      have i5 : (k : Int) < (n : Int) := by omega
      have i6 : IntKind.i64.wrap ((k : Int) + 1 + 1) = (k : Int) + 1 + 1 := IntWalk.i64_in _ (by omega)
      by_cases hlx : x < y
      · rw [decide_eq_true hlx] at hls
        have HK : Hid (∀ (j : Nat) u v, j < k + 1 → l[j]? = some u → l[j + 1]? = some v → u < v) := Lib.hid (fun j u v hj hu hv => by
          by_cases e : j = k
          · subst e
            rw [hx] at hu; rw [hy] at hv; cases hu; cases hv; exact hlx
          · exact H.out j u v (by omega) hu hv)
        clear H HBAD HC hx hy hlx
        generalize (⟨x.toArray⟩ : ByteArray) = X at *
        generalize (⟨y.toArray⟩ : ByteArray) = Y at *
        go_wp2
        go_quiet (fail)
        have HB2 := Lib.hid (belowQ HB.out nq)
        go_wp2
        go_roundw
        case rel => exact ⟨k + 1, by omega, by go_num, HK, HB2⟩
        case measure => simp [intOf]; omega
      · rw [decide_eq_false hlx] at hls
        have HF := Lib.hid (HBAD.out k x y hx hy hlx)
        clear H HBAD HC hx hy hlx
        generalize (⟨x.toArray⟩ : ByteArray) = X at *
        generalize (⟨y.toArray⟩ : ByteArray) = Y at *
        go_wp2
        go_quiet (fail)
        have HB2 := Lib.hid (belowQ HB.out nq)
        go_wp2
        go_ret
        exact ⟨retb HF.out, HB2.out⟩
    · have HF := Lib.hid (HOK.out (fun i x y hx hy => H.out i x y (by have := (List.getElem?_eq_some_iff.1 hy).1; rw [HN.out] at this; omega) hx hy))
      have i1 : ¬ ((k : Int) + 1) < (n : Int) := by omega
      have hd : decide ((n : Int) ≤ 64) = decide (n ≤ 64) := by by_cases g : n ≤ 64 <;> simp [g] <;> omega
      clear hlt H HBAD HOK
      generalize decide (n ≤ 64) = q at *
      go_wp2
      go_ret
      exact ⟨retb HF.out, HB.out⟩

def namesB (l : List Bs) : Bool := l.all nameB && decide (l.length ≤ 64)
theorem chkG_names (l : List Bs) : decide (chkG nameB l = 0) = (namesB l && riseB l) := by
  unfold namesB
  by_cases h : chkG nameB l = 0
  · obtain ⟨h1, h2⟩ := chkG_parts.1 h
    rw [decide_eq_true h, h2, List.all_eq_true.2 h1, decide_eq_true (chkG_zero h).1]; rfl
  · rw [decide_eq_false h]
    cases ha : l.all nameB
    · rfl
    · cases hr : riseB l
      · simp
      · exact absurd (chkG_parts.2 ⟨List.all_eq_true.1 ha, hr⟩) h
set_option maxRecDepth 100000 in
set_option maxHeartbeats 4000000 in
theorem names_ref (v : Value) (l : List Bs) (hl : l.length ≤ 90000) (hs : SmallT l) (w : World) (h : HoldT w v l) : Calls Tryz.prog 48 #[v] w fun e w' => e = .returned (.bool (namesB l)) ∧ w = w' := by
  obtain ⟨a, c, b, o, rfl, hc, ha, hcell⟩ := h
  have HC := Lib.hid hcell
  have HS := Lib.hid hs
  obtain ⟨Z, HZ⟩ : ∃ Z, Hid (namesB l = Z) := ⟨_, rfl⟩
  rw [HZ.out]
  obtain ⟨n, hN⟩ : ∃ n, l.length = n := ⟨_, rfl⟩
  rw [hN] at hc ha hl ⊢
  have HN := Lib.hid hN
  clear hcell hN hs
  have HBAD : Hid (∀ (i : Nat) x, l[i]? = some x → nameB x = false → false = Z) := Lib.hid (fun i x hx g => by
    rw [← HZ.out]; unfold namesB
    rw [List.all_eq_false.2 ⟨x, List.mem_of_getElem? hx, by rw [g]; simp⟩]; rfl)
  have HOK : Hid ((∀ (i : Nat) x, l[i]? = some x → nameB x = true) → decide (n ≤ 64) = Z) := Lib.hid (fun g => by
    rw [← HZ.out]; unfold namesB
    rw [List.all_eq_true.2 (fun x hx => by obtain ⟨i, hi⟩ := List.mem_iff_getElem?.1 hx; exact g i x hi), HN.out]; rfl)
  clear HZ
  go_enter Tryz.func48, Tryz.ntmps48
  go_wp2
  go_loop [3] (fun i => ∃ k : Nat, k ≤ n ∧ i = .int .i64 k ∧ Hid (∀ (j : Nat) y, j < k → l[j]? = some y → nameB y = true)) (fun i => n - (intOf i).toNat)
  case atStart => exact ⟨0, by omega, rfl, Lib.hid (fun j y hj => by omega)⟩
  case round =>
    obtain ⟨k, hk, rfl, H⟩ := hrel
    by_cases hlt : k < n
    · obtain ⟨rfl, hbw⟩ := ha (by omega)
      obtain ⟨x, hx⟩ : ∃ x, l[k]? = some x := ⟨_, List.getElem?_eq_getElem (by rw [HN.out]; exact hlt)⟩
      have c0 := HC.out k x hx
      have NM := fun W => name_ref ⟨x.toArray⟩ (by rw [sizeOf, bytesOf]; exact HS.out x (List.mem_of_getElem? hx)) W
      rw [bytesOf] at NM
      cases hq : nameB x
      · have HF := Lib.hid (HBAD.out k x hx hq)
        rw [hq] at NM
        clear hq H HBAD HOK HC HS hx
        generalize (⟨x.toArray⟩ : ByteArray) = X at *
        go_wp2_with (go_at_call 38; (with_reducible refine (NM _).mono ?_); rintro e w3 ⟨rfl, rfl⟩)
        go_ret
        exact ⟨retb HF.out, rfl⟩
      · rw [hq] at NM
        have HK : Hid (∀ (j : Nat) u, j < k + 1 → l[j]? = some u → nameB u = true) := Lib.hid (fun j u hj hu => by
          by_cases ej : j = k
          · subst ej; rw [hx] at hu; cases hu; exact hq
          · exact H.out j u (by omega) hu)
        clear hq H HBAD HC HS hx
        generalize (⟨x.toArray⟩ : ByteArray) = X at *
        go_wp2_with (go_at_call 38; (with_reducible refine (NM _).mono ?_); rintro e w3 ⟨rfl, rfl⟩)
        go_round
        case rel => exact ⟨k + 1, by omega, by go_num, HK⟩
        case measure => simp [intOf]; omega
    · obtain rfl : k = n := by omega
      have HF := Lib.hid (HOK.out (fun i x hx => H.out i x (by have := (List.getElem?_eq_some_iff.1 hx).1; rw [HN.out] at this; exact this) hx))
      have hd : decide ((k : Int) ≤ 64) = decide (k ≤ 64) := by by_cases g : k ≤ 64 <;> simp [g] <;> omega
      clear hlt H HBAD HOK
      generalize decide (k ≤ 64) = q at *
      go_wp2
      go_ret
      exact ⟨retb HF.out, rfl⟩
end Go.Proofs.YtceohgjfjndcmaaGreatDoor
