/-
  Right and Match of a pattern: what each returns; nothing old turns.
-/
import Derived.Test.YtapdmlejgakhaaaWSteps
namespace Go.Proofs.Ytapdmlejgakhaaa
open Go.RowKit
def rightW (p : Bs) : Bool := (stepsL p).isSome
theorem stepsP_some {s : Bs} {l : List Stp} (h : stepsL s = some l) {w w' : World} {e : Ending} (hp : StepsP s w e w') : (∃ v L, e = .returned (.tuple #[v, .bool true]) ∧ stps L = l ∧ HoldW w' v L) ∧ Below w.heap.size w w' := by
  unfold StepsP at hp; rw [h] at hp; exact hp
theorem stepsP_none {s : Bs} (h : stepsL s = none) {w w' : World} {e : Ending} (hp : StepsP s w e w') : e = .returned (.tuple #[.slice none 0 0, .bool false]) ∧ Below w.heap.size w w' := by
  unfold StepsP at hp; rw [h] at hp; exact hp
theorem stepsGo_len : ∀ {n : Nat} {p : Bs} {l : List Stp}, stepsGo n p = some l → l.length ≤ n
  | 0, [], l, h => by simp [stepsGo] at h; subst h; simp
  | n + 1, [], l, h => by simp [stepsGo] at h; subst h; simp
  | 0, c :: t, l, h => by simp [stepsGo] at h
  | n + 1, c :: t, l, h => by
    rw [stepsGo] at h
    cases hf : firstL (c :: t) with
    | none => rw [hf] at h; simp at h
    | some x =>
      rw [hf, Option.bind_some, Option.map_eq_some_iff] at h
      obtain ⟨l', h1, h2⟩ := h
      have := stepsGo_len h1
      subst h2
      simp; omega
theorem stepsL_len {p : Bs} {l : List Stp} (h : stepsL p = some l) : l.length ≤ 200 := by
  unfold stepsL at h
  split at h
  · cases h
  · have := stepsGo_len h; omega
set_option maxHeartbeats 4000000 in
theorem rightW_any (p : ByteArray) (w : World) : Calls Try.prog 7 #[.string p] w fun e w' => e = .returned (.bool (rightW p.data.toList)) ∧ Below w.heap.size w w' := by
  cases h : stepsL p.data.toList with
  | none =>
    have HR : Hid (rightW p.data.toList = false) := Lib.hid (by unfold rightW; rw [h]; rfl)
    have M1 := fun W => (steps_any p W).mono (fun e w' hp => stepsP_none h hp)
    rw [HR.out]
    clear h
    go_enter Try.func7, Try.ntmps7
    go_wp2_with (go_at_call 12; (with_reducible refine (M1 _).mono ?_); rintro e w2 ⟨rfl, hb⟩; have HB := Lib.hid hb; clear hb)
    go_ret
    exact ⟨rfl, HB.out⟩
  | some l =>
    have HR : Hid (rightW p.data.toList = true) := Lib.hid (by unfold rightW; rw [h]; rfl)
    have M1 := fun W => (steps_any p W).mono (fun e w' hp => stepsP_some h hp)
    rw [HR.out]
    clear h
    go_enter Try.func7, Try.ntmps7
    go_wp2_with (go_at_call 12; (with_reducible refine (M1 _).mono ?_); rintro e w2 ⟨⟨v, L, rfl, -, -⟩, hb⟩; have HB := Lib.hid hb; clear hb)
    go_ret
    exact ⟨rfl, HB.out⟩
set_option maxHeartbeats 4000000 in
theorem matcher1_no (s : ByteArray) (a b : Nat) (w : World) (h : w.cell? ⟨a, 0, none⟩ = some (.bool false)) : Calls Try.prog 17 #[.string s, .pointer (some ⟨a, 0, none⟩), .pointer (some ⟨b, 0, none⟩)] w fun e w' => e = .returned (.bool false) ∧ Below w.heap.size w w' := by
  go_enter Try.func17, Try.ntmps17
  go_wp2
  go_ret
  exact ⟨rfl, Below.refl _ _⟩
set_option maxHeartbeats 4000000 in
theorem matcher1_yes (s : ByteArray) (hs : s.size ≤ 100000) (a b : Nat) (v : Value) (L : List Sv) (hL : L.length ≤ 100000) (w : World) (h : w.cell? ⟨a, 0, none⟩ = some (.bool true)) (h2 : w.cell? ⟨b, 0, none⟩ = some v) (hH : HoldW w v L) : Calls Try.prog 17 #[.string s, .pointer (some ⟨a, 0, none⟩), .pointer (some ⟨b, 0, none⟩)] w fun e w' => e = .returned (.bool (mB (stps L) s.data.toList)) ∧ Below w.heap.size w w' := by
  have M1 := stand_any v L hL s hs w hH
  unfold StandP at M1
  obtain ⟨va, vc, vb, vo, rfl, -⟩ := hH.parts
  generalize mB (stps L) s.data.toList = r at *
  generalize L.length = n at *
  clear hH hL hs
  go_enter Try.func17, Try.ntmps17
  go_wp2_with (go_at_call 18; (with_reducible refine M1.mono ?_); rintro e w2 ⟨rfl, hb⟩; have HB := Lib.hid hb; clear hb)
  go_ret
  exact ⟨rfl, HB.out⟩
/-- The function value tells of texts whether the pattern stands for them. -/
def MatF (w : World) (p : Bs) (v : Value) : Prop := ∃ g lb, v = .func (.func g) #[] lb ∧ (∀ args w, (callFunc g args).run Try.prog w = .ok (.enter g args) w) ∧
  ∀ W (s : ByteArray), s.size ≤ 100000 → Below w.heap.size w W → Calls Try.prog g (#[.string s] ++ lb) W fun e w' => e = .returned (.bool (matchL p s.data.toList)) ∧ Below W.heap.size W w'
set_option maxHeartbeats 4000000 in
theorem matcher_any (p : ByteArray) (w : World) : Calls Try.prog 13 #[.string p] w fun e w' => ∃ v, e = .returned v ∧ MatF w' p.data.toList v ∧ Below w.heap.size w w' := by
  have EN : ∀ args w, (callFunc 17 args).run Try.prog w = .ok (.enter 17 args) w := enters_of Try.func17 (by kernel_rfl) rfl
  have HEN := Lib.hid EN
  clear EN
  cases h : stepsL p.data.toList with
  | none =>
    have M1 := fun W => (steps_any p W).mono (fun e w' hp => stepsP_none h hp)
    have HM : Hid (∀ s, matchL p.data.toList s = false) := Lib.hid (fun s => by unfold matchL; rw [h])
    clear h
    go_enter Try.func13, Try.ntmps13
    go_wp2_with (go_at_call 12; (with_reducible refine (M1 _).mono ?_); rintro e w2 ⟨rfl, hb⟩; have HB := Lib.hid hb; clear hb)
    go_ret
    refine ⟨_, rfl, ⟨_, _, rfl, HEN.out, fun W s _ hW => ?_⟩, (HB.out.alloc HB.out.size _).alloc (by have := HB.out.size; simp; omega) _⟩
    rw [HM.out]
    have c0 := boxV1 (w2.alloc (.cells #[.slice none 0 0] 37)) (.bool false) 4
    rw [World.size_alloc] at c0
    exact matcher1_no s _ _ W ((hW.cell (p := ⟨w2.heap.size + 1, 0, none⟩) (by simp)).trans c0)
  | some l =>
    have hl := stepsL_len h
    have M1 := fun W => (steps_any p W).mono (fun e w' hp => stepsP_some h hp)
    have HM : Hid (∀ s, matchL p.data.toList s = mB l s) := Lib.hid (fun s => by unfold matchL; rw [h])
    have HL := Lib.hid hl
    clear h hl
    go_enter Try.func13, Try.ntmps13
    go_wp2_with (go_at_call 12; (with_reducible refine (M1 _).mono ?_); rintro e w2 ⟨⟨v, L, rfl, hS, hH⟩, hb⟩; obtain ⟨va, vc, -, -, rfl, -⟩ := hH.parts; have HS := Lib.hid hS; have HH := Lib.hid hH; have HB := Lib.hid hb; clear hb hS hH)
    go_ret
    obtain ⟨vv, hvv⟩ : ∃ vv, Value.slice va L.length vc = vv := ⟨_, rfl⟩
    have HH2 := HH.out
    rw [hvv] at HH2
    refine ⟨_, rfl, ⟨_, _, rfl, HEN.out, fun W s hs hW => ?_⟩, (HB.out.alloc HB.out.size _).alloc (by have := HB.out.size; simp; omega) _⟩
    rw [HM.out, ← HS.out]
    rw [hvv] at hW
    have hlen : L.length ≤ 200 := by have := HL.out; rw [← HS.out, List.length_map] at this; exact this
    have c0 := boxV1 (w2.alloc (.cells #[vv] 37)) (.bool true) 4
    have c1 := boxV1 w2 vv 37
    have B1 := (Below.refl w2.heap.size w2).alloc (Nat.le_refl _) (.cells #[vv] 37)
    have B2 := (Below.refl (w2.alloc (.cells #[vv] 37)).heap.size (w2.alloc (.cells #[vv] 37))).alloc (Nat.le_refl _) (.cells #[.bool true] 4)
    have B3 := B1.trans (B2.mono B1.size)
    rw [World.size_alloc] at c0
    exact matcher1_yes s hs _ _ vv L (by omega) W ((hW.cell (p := ⟨w2.heap.size + 1, 0, none⟩) (by simp)).trans c0) (((hW.cell (p := ⟨w2.heap.size, 0, none⟩) (by simp; omega)).trans (B2.cell (p := ⟨w2.heap.size, 0, none⟩) (by simp))).trans c1) (HH2.on (B3.trans (hW.mono B3.size)))
set_option maxHeartbeats 4000000 in
theorem match_any (p s : ByteArray) (hs : s.size ≤ 100000) (w : World) : Calls Try.prog 8 #[.string p, .string s] w fun e w' => e = .returned (.bool (matchL p.data.toList s.data.toList)) ∧ Below w.heap.size w w' := by
  have M1 := fun W => matcher_any p W
  have HS := Lib.hid hs
  clear hs
  go_enter Try.func8, Try.ntmps8
  go_wp2_with (first
    | (go_at_call 13; (with_reducible refine (M1 _).mono ?_); rintro e w2 ⟨v, rfl, ⟨g, lb, rfl, eg, hm⟩, hb⟩; have HMM := Lib.hid hm; have HB := Lib.hid hb; clear hb hm M1)
    | (go_at_fn g; (with_reducible refine (HMM.out _ _ HS.out (Below.refl _ _)).mono ?_); rintro e w3 ⟨rfl, hb⟩; have HB3 := Lib.hid (HB.out.trans (hb.mono HB.out.size)); clear hb))
  go_ret
  exact ⟨rfl, HB3.out⟩
end Go.Proofs.Ytapdmlejgakhaaa
