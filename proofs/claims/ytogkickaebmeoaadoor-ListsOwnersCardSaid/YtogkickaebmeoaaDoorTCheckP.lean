/-
  The program's keyed.Check over paths, and the reference's Rising: what each returns; nothing old turns. Condition: LaidP.
-/
import Derived.Test.YtogkickaebmeoaaDoorTMath
import Derived.Test.YtogkickaebmeoaaDoorPClean
import Derived.Test.YtogkickaebmeoaaDoorLList
import Derived.IntWalk
namespace Go.Proofs.YtogkickaebmeoaaDoor
open Go.RowKit
def SmallP (l : List Bs) : Prop := ∀ x ∈ l, x.length ≤ 4000
theorem itself_any (s : ByteArray) (w : World) : Calls Tryd.prog 46 #[.string s] w fun e w' => e = .returned (.string s) ∧ w = w' := by
  go_enter Tryd.func46, Tryd.ntmps46
  go_wp2
  go_ret
  exact ⟨rfl, rfl⟩
abbrev itF : Value := .func (.func 46) #[] #[]
abbrev prF : Value := .func (.func 47) #[] #[]
set_option maxRecDepth 100000 in
set_option maxHeartbeats 8000000 in
theorem kcheckP_any (v : Value) (l : List Bs) (hl : l.length ≤ 90000) (hs : SmallP l) (w : World) (hL : LaidP w) (h : HoldT w v l) :
    Calls Tryd.prog 45 #[v, itF, prF] w fun e w' => e = .returned (.int .i64 (chkP l)) ∧ Below w.heap.size w w' := by
  obtain ⟨a, c, b, o, rfl, hc, ha, hcell⟩ := h
  unfold itF prF
  have HC := Lib.hid hcell
  have HL := Lib.hid hL
  have HS := Lib.hid hs
  have IT := fun s W => itself_any s W
  obtain ⟨Z, HZ⟩ : ∃ Z, Hid (chkP l = Z) := ⟨_, rfl⟩
  rw [HZ.out]
  obtain ⟨n, hN⟩ : ∃ n, l.length = n := ⟨_, rfl⟩
  rw [hN] at hc ha hl ⊢
  have HN := Lib.hid hN
  clear hcell hL hs hN
  by_cases h64 : 64 < n
  · have HF : Hid ((22 : Int) = Z) := Lib.hid (by rw [← HZ.out, chkP_long (by rw [HN.out]; exact h64)])
    go_enter Tryd.func45, Tryd.ntmps45
    go_wp2
    go_ret
    exact ⟨reti HF.out, Below.refl _ _⟩
  have HBAD : Hid (∀ (i : Nat) x, l[i]? = some x → ¬ stepP l i x → (1 : Int) = Z) := Lib.hid (fun i x hx g => by rw [← HZ.out, chkP_no (by rw [HN.out]; exact h64) (fun q => g (q i x hx))])
  have HOK : Hid (StepsP l → (0 : Int) = Z) := Lib.hid (fun g => by rw [← HZ.out, chkP_ok (by rw [HN.out]; exact h64) g])
  clear HZ
  go_enter Tryd.func45, Tryd.ntmps45
  go_wp2
  go_loopw [14] (fun i wr => ∃ k : Nat, k ≤ n ∧ i = .int .i64 k ∧ Hid (∀ (j : Nat) y, j < k → l[j]? = some y → stepP l j y) ∧ Hid (Below w.heap.size w wr)) (fun i _ => n - (intOf i).toNat)
  case atStart => exact ⟨0, by omega, rfl, Lib.hid (fun j y hj => by omega), Lib.hid (Below.refl _ _)⟩
  case round =>
    obtain ⟨k, hk, rfl, H, HB⟩ := hrel
    have hsz := HB.out.size
    by_cases hlt : k < n
    · obtain ⟨rfl, hbw⟩ := ha (by omega)
      obtain ⟨x, hx⟩ : ∃ x, l[k]? = some x := ⟨_, List.getElem?_eq_getElem (by rw [HN.out]; exact hlt)⟩
      have c0 := HC.out k x hx
      rw [← HB.out.cell (p := ⟨b, o + k, none⟩) hbw] at c0
      have RA := right_any ⟨x.toArray⟩ (by rw [sizeOf, bytesOf]; exact HS.out x (List.mem_of_getElem? hx)) wr (HL.out.on HB.out)
      have HX := Lib.hid hx
      rw [bytesOf] at RA
      cases hq : right x
      · have HF := Lib.hid (HBAD.out k x HX.out (fun g => by rw [g.1] at hq; cases hq))
        rw [hq] at RA
        clear hq H HBAD HOK HC HS HX hx
        generalize (⟨x.toArray⟩ : ByteArray) = X at *
        go_wp2_with (go_at_call 47; refine RA.mono ?_; rintro e w3 ⟨rfl, hb⟩; have HB3 := Lib.hid (HB.out.trans (hb.mono hsz)); clear hb)
        go_ret
        exact ⟨reti HF.out, HB3.out⟩
      · rw [hq] at RA
        by_cases hk0 : 0 < k
        · obtain ⟨y, hy⟩ : ∃ y, l[k - 1]? = some y := ⟨_, List.getElem?_eq_getElem (by rw [HN.out]; omega)⟩
          have hls := lessT ⟨y.toArray⟩ ⟨x.toArray⟩
          rw [bytesOf, bytesOf] at hls
          have e0 := HC.out (k - 1) y hy
          have hBAD : Hid (¬ y < x → (1 : Int) = Z) := Lib.hid (fun g => HBAD.out k x HX.out (fun q => g (q.2 y hk0 hy)))
          have HNX : Hid (y < x → ∀ (j : Nat) u, j < k + 1 → l[j]? = some u → stepP l j u) := Lib.hid (fun g j u hj hu => by
            by_cases ej : j = k
            · subst ej
              rw [HX.out] at hu; cases hu
              exact ⟨hq, fun u h1 h2 => by rw [hy] at h2; cases h2; exact g⟩
            · exact H.out j u (by omega) hu)
          have HE0 := Lib.hid (fun W (hb : Below w.heap.size w W) => (hb.cell (p := ⟨b, o + (k - 1), none⟩) hbw).trans e0)
          have i0 : (0 : Int) ≤ (k : Int) - 1 := by omega
          have i1 : (k : Int) - 1 < (n : Int) := by omega
          have i2 : ((k : Int) - 1).toNat = k - 1 := by omega
          have i3 : IntKind.i64.wrap ((k : Int) - 1) = (k : Int) - 1 := IntWalk.i64_in _ (by omega)
          have i4 : (0 : Int) < (k : Int) := by omega
          by_cases hlx : y < x
          · rw [decide_eq_true hlx] at hls
            have HK := Lib.hid (HNX.out hlx)
            clear hq H HBAD HC HS HX hx hy e0 hBAD HNX hlx
            generalize (⟨x.toArray⟩ : ByteArray) = X at *
            generalize (⟨y.toArray⟩ : ByteArray) = Y at *
            go_wp2_with (first
              | (go_at_call 47; refine RA.mono ?_; rintro e w3 ⟨rfl, hb⟩; have HB3 := Lib.hid (HB.out.trans (hb.mono hsz)); have e1 := HE0.out _ HB3.out; clear hb)
              | (go_at_call 46; refine (IT _ _).mono ?_; rintro e w4 ⟨rfl, rfl⟩))
            go_roundw
            case rel => exact ⟨k + 1, by omega, by go_num, HK, HB3⟩
            case measure => simp [intOf]; omega
          · rw [decide_eq_false hlx] at hls
            have HF := Lib.hid (hBAD.out hlx)
            clear hq H HBAD HC HS HX hx hy e0 hBAD HNX hlx
            generalize (⟨x.toArray⟩ : ByteArray) = X at *
            generalize (⟨y.toArray⟩ : ByteArray) = Y at *
            go_wp2_with (first
              | (go_at_call 47; refine RA.mono ?_; rintro e w3 ⟨rfl, hb⟩; have HB3 := Lib.hid (HB.out.trans (hb.mono hsz)); have e1 := HE0.out _ HB3.out; clear hb)
              | (go_at_call 46; refine (IT _ _).mono ?_; rintro e w4 ⟨rfl, rfl⟩))
            go_ret
            exact ⟨reti HF.out, HB3.out⟩
        · have i4 : ¬ (0 : Int) < (k : Int) := by omega
          have HK : Hid (∀ (j : Nat) u, j < k + 1 → l[j]? = some u → stepP l j u) := Lib.hid (fun j u hj hu => by
            obtain rfl : j = k := by omega
            rw [HX.out] at hu; cases hu
            exact ⟨hq, fun u h1 h2 => by omega⟩)
          clear hq H HBAD HC HS HX hx hk0
          generalize (⟨x.toArray⟩ : ByteArray) = X at *
          go_wp2_with (go_at_call 47; refine RA.mono ?_; rintro e w3 ⟨rfl, hb⟩; have HB3 := Lib.hid (HB.out.trans (hb.mono hsz)); clear hb)
          go_roundw
          case rel => exact ⟨k + 1, by omega, by go_num, HK, HB3⟩
          case measure => simp [intOf]; omega
    · obtain rfl : k = n := by omega
      have HF := Lib.hid (HOK.out (fun i x hx => H.out i x (by have := (List.getElem?_eq_some_iff.1 hx).1; rw [HN.out] at this; exact this) hx))
      clear hlt H HBAD HOK
      go_wp2
      go_ret
      exact ⟨reti HF.out, HB.out⟩
end Go.Proofs.YtogkickaebmeoaaDoor
