/-
  The program's keyed.Check over texts, whatever predicate: what it returns; nothing old turns.
-/
import Derived.Test.YtpkdnohaefkfgaaGreatDoorGPName
import Derived.Test.YtpkdnohaefkfgaaGreatDoorGUTrig
import Derived.Test.YtpkdnohaefkfgaaGreatDoorGZHold
import Derived.IntWalk
import Derived.RangeFuncBox
namespace Go.Proofs.YtpkdnohaefkfgaaGreatDoor
open Go.RowKit
-- Lists by keys
section
variable {α : Type} (rt : α → Bool) (key : α → Bs)
def stepK (l : List α) (i : Nat) (x : α) : Prop := rt x = true ∧ ∀ y, 0 < i → l[i - 1]? = some y → key y < key x
def StepsK (l : List α) : Prop := ∀ (i : Nat) x, l[i]? = some x → stepK rt key l i x
open Classical in
noncomputable def kchkK (l : List α) : Int := if 64 < l.length then 22 else if StepsK rt key l then 0 else 1
end
section
variable {α : Type} {rt : α → Bool} {key : α → Bs}
theorem kchkK_long {l : List α} (h : 64 < l.length) : kchkK rt key l = 22 := by unfold kchkK; rw [if_pos h]
theorem kchkK_ok {l : List α} (h : ¬ 64 < l.length) (g : StepsK rt key l) : kchkK rt key l = 0 := by unfold kchkK; rw [if_neg h, if_pos g]
theorem kchkK_no {l : List α} (h : ¬ 64 < l.length) (g : ¬ StepsK rt key l) : kchkK rt key l = 1 := by unfold kchkK; rw [if_neg h, if_neg g]
theorem kchkK_ways (rt : α → Bool) (key : α → Bs) (l : List α) : (kchkK rt key l = 0 ∧ l.length ≤ 64 ∧ StepsK rt key l) ∨ ((kchkK rt key l = 22 ∨ kchkK rt key l = 1) ∧ ¬ (l.length ≤ 64 ∧ StepsK rt key l)) := by
  by_cases h : 64 < l.length
  · exact .inr ⟨.inl (kchkK_long h), fun g => by omega⟩
  · by_cases g : StepsK rt key l
    · exact .inl ⟨kchkK_ok h g, by omega, g⟩
    · exact .inr ⟨.inr (kchkK_no h g), fun q => g q.2⟩
end
end Go.Proofs.YtpkdnohaefkfgaaGreatDoor
namespace Go.Proofs.YtpkdnohaefkfgaaGreatDoor
open Go.RowKit
theorem itself_any (s : ByteArray) (w : World) : Calls Tryz.prog 48 #[.string s] w fun e w' => e = .returned (.string s) ∧ w' = w := by
  go_enter Tryz.func48, Tryz.ntmps48
  go_wp2
  go_ret
  exact ⟨rfl, rfl⟩
abbrev keyFT : Value := .func (.func 48) #[] #[]
/-- What is asked of a predicate: at each of l's, in each later world. -/
def PredKT (g : Nat) (lb : Array Value) (l : List Bs) (p : Bs → Bool) (w : World) : Prop :=
  ∀ x ∈ l, ∀ W, Below w.heap.size w W → Calls Tryz.prog g (#[.string (⟨x.toArray⟩ : ByteArray)] ++ lb) W fun e w' => e = .returned (.bool (p x)) ∧ Below W.heap.size W w'
set_option maxRecDepth 100000 in
set_option maxHeartbeats 8000000 in
theorem kcheckT_any (g : Nat) (lb : Array Value) (eg : ∀ args w, (callFunc g args).run Tryz.prog w = .ok (.enter g args) w) (rt : Bs → Bool) (v : Value) (l : List Bs) (hl : l.length ≤ 90000) (w : World) (h : HoldT w v l) (hra : PredKT g lb l rt w) :
    Calls Tryz.prog 47 #[v, keyFT, .func (.func g) #[] lb] w fun e w' => e = .returned (.int .i64 (kchkK rt (fun x => x) l)) ∧ Below w.heap.size w w' := by
  obtain ⟨a, c, b, o, rfl, hc, ha, hcell⟩ := h
  have HC := Lib.hid hcell
  have HRA := Lib.hid hra
  have KI := fun s W => itself_any s W
  unfold keyFT
  obtain ⟨Z, HZ⟩ : ∃ Z, Hid (kchkK rt (fun x => x) l = Z) := ⟨_, rfl⟩
  rw [HZ.out]
  obtain ⟨n, hN⟩ : ∃ n, l.length = n := ⟨_, rfl⟩
  rw [hN] at hc ha hl ⊢
  have HN := Lib.hid hN
  clear hcell hN hra
  by_cases h64 : 64 < n
  · have HF : Hid ((22 : Int) = Z) := Lib.hid (by rw [← HZ.out, kchkK_long (by rw [HN.out]; exact h64)])
    go_enter Tryz.func47, Tryz.ntmps47
    go_wp2
    go_ret
    exact ⟨reti HF.out, Below.refl _ _⟩
  have HBAD : Hid (∀ (i : Nat) x, l[i]? = some x → ¬ stepK rt (fun x => x) l i x → (1 : Int) = Z) := Lib.hid (fun i x hx g => by rw [← HZ.out, kchkK_no (by rw [HN.out]; exact h64) (fun q => g (q i x hx))])
  have HOK : Hid (StepsK rt (fun x => x) l → (0 : Int) = Z) := Lib.hid (fun g => by rw [← HZ.out, kchkK_ok (by rw [HN.out]; exact h64) g])
  clear HZ
  go_enter Tryz.func47, Tryz.ntmps47
  go_wp2
  go_loopw [14] (fun i wr => ∃ k : Nat, k ≤ n ∧ i = .int .i64 k ∧ Hid (∀ (j : Nat) x, j < k → l[j]? = some x → stepK rt (fun x => x) l j x) ∧ Hid (Below w.heap.size w wr)) (fun i _ => n - (intOf i).toNat)
  case atStart => exact ⟨0, by omega, rfl, Lib.hid (fun j y hj => by omega), Lib.hid (Below.refl _ _)⟩
  case round =>
    obtain ⟨k, hk, rfl, H, HB⟩ := hrel
    by_cases hlt : k < n
    · obtain ⟨rfl, hbw⟩ := ha (by omega)
      obtain ⟨x, hx⟩ : ∃ x, l[k]? = some x := ⟨_, List.getElem?_eq_getElem (by rw [HN.out]; exact hlt)⟩
      have c0 := HC.out k x hx
      rw [← HB.out.cell (p := ⟨b, o + k, none⟩) hbw] at c0
      have RA := HRA.out x (List.mem_of_getElem? hx) wr HB.out
      have HX := Lib.hid hx
      have hsz := HB.out.size
      clear hx
      cases hq : rt x
      · have HF := Lib.hid (HBAD.out k x HX.out (fun g => by rw [g.1] at hq; cases hq))
        simp only [hq] at RA
        clear hq H HBAD HOK HC HX HRA
        generalize (⟨x.toArray⟩ : ByteArray) = X0 at *
        go_wp2_with (go_at_fn g; (with_reducible refine RA.mono ?_); rintro e w3 ⟨rfl, hb⟩; have HB3 := Lib.hid (HB.out.trans (hb.mono hsz)); clear hb)
        go_ret
        exact ⟨reti HF.out, HB3.out⟩
      · simp only [hq] at RA
        by_cases hk0 : 0 < k
        · obtain ⟨y, hy⟩ : ∃ y, l[k - 1]? = some y := ⟨_, List.getElem?_eq_getElem (by rw [HN.out]; omega)⟩
          have HE0 : Hid (∀ W, Below w.heap.size w W → W.cell? ⟨b, o + (k - 1), none⟩ = some (.string ⟨y.toArray⟩)) := Lib.hid (fun W hW => (hW.cell (p := ⟨b, o + (k - 1), none⟩) hbw).trans (HC.out (k - 1) y hy))
          have hls := lessT (⟨y.toArray⟩ : ByteArray) (⟨x.toArray⟩ : ByteArray)
          rw [bytesOf, bytesOf] at hls
          have HBADk : Hid (decide (y < x) = false → (1 : Int) = Z) := Lib.hid (fun g => HBAD.out k x HX.out (fun q => by have := q.2 y hk0 hy; simp only at this; rw [decide_eq_true this] at g; cases g))
          have HNEXT : Hid (decide (y < x) = true → ∀ (j : Nat) u, j < k + 1 → l[j]? = some u → stepK rt (fun x => x) l j u) := Lib.hid (fun g j u hj hu => by
            by_cases ej : j = k
            · subst ej
              rw [HX.out] at hu; cases hu
              exact ⟨hq, fun u h1 h2 => by rw [hy] at h2; cases h2; exact of_decide_eq_true g⟩
            · exact H.out j u (by omega) hu)
          generalize decide (y < x) = q at *
          have hd : decide ((0 : Int) < (k : Int)) = true := decide_eq_true (by omega)
          have hk1 : (1 : Int) ≤ (k : Int) := by omega
          have i0 : (0 : Int) ≤ (k : Int) - 1 := by omega
          have i1 : (k : Int) - 1 < (n : Int) := by omega
          have i2 : ((k : Int) - 1).toNat = k - 1 := by omega
          have i3 : IntKind.i64.wrap ((k : Int) - 1) = (k : Int) - 1 := IntWalk.i64_in _ (by omega)
          clear hq H HBAD HC HX hy HRA
          generalize (⟨x.toArray⟩ : ByteArray) = X0 at *
          generalize (⟨y.toArray⟩ : ByteArray) = X0' at *
          cases q
          · have HF := Lib.hid (HBADk.out rfl)
            clear HBADk HNEXT
            go_wp2_with (first
              | (go_at_fn g; (with_reducible refine RA.mono ?_); rintro e w3 ⟨rfl, hb⟩; have HB3 := Lib.hid (HB.out.trans (hb.mono hsz)); have e3 := HE0.out _ HB3.out; clear hb)
              | (go_at_call 48; (with_reducible refine (KI _ _).mono ?_); rintro e w4 ⟨rfl, rfl⟩))
            go_ret
            exact ⟨reti HF.out, HB3.out⟩
          · have HK := Lib.hid (HNEXT.out rfl)
            clear HBADk HNEXT
            go_wp2_with (first
              | (go_at_fn g; (with_reducible refine RA.mono ?_); rintro e w3 ⟨rfl, hb⟩; have HB3 := Lib.hid (HB.out.trans (hb.mono hsz)); have e3 := HE0.out _ HB3.out; clear hb)
              | (go_at_call 48; (with_reducible refine (KI _ _).mono ?_); rintro e w4 ⟨rfl, rfl⟩))
            go_roundw
            case rel => exact ⟨k + 1, by omega, by go_num, HK, HB3⟩
            case measure => simp [intOf]; omega
        · have HK : Hid (∀ (j : Nat) u, j < k + 1 → l[j]? = some u → stepK rt (fun x => x) l j u) := Lib.hid (fun j u hj hu => by
            obtain rfl : j = k := by omega
            rw [HX.out] at hu; cases hu
            exact ⟨hq, fun _ h1 => absurd h1 hk0⟩)
          have hd : decide ((0 : Int) < (k : Int)) = false := decide_eq_false (by omega)
          clear hq H HBAD HOK HC HX HRA
          generalize (⟨x.toArray⟩ : ByteArray) = X0 at *
          go_wp2_with (go_at_fn g; (with_reducible refine RA.mono ?_); rintro e w3 ⟨rfl, hb⟩; have HB3 := Lib.hid (HB.out.trans (hb.mono hsz)); clear hb)
          go_roundw
          case rel => exact ⟨k + 1, by omega, by go_num, HK, HB3⟩
          case measure => simp [intOf]; omega
    · obtain rfl : k = n := by omega
      have HF := Lib.hid (HOK.out (fun i x hx => H.out i x (by have := (List.getElem?_eq_some_iff.1 hx).1; rw [HN.out] at this; exact this) hx))
      clear hlt H HBAD HOK
      go_wp2
      go_ret
      exact ⟨reti HF.out, HB.out⟩
end Go.Proofs.YtpkdnohaefkfgaaGreatDoor
