/-
  The reference's Same of equal texts, and of equal lists of lists: true; nothing old turns.
-/
import Derived.Test.YtogkickaebmeoaaDoorTParse
import Derived.Deep.RegionHeld3
namespace Go.Proofs.YtogkickaebmeoaaDoor
open Go.RowKit
set_option maxRecDepth 100000 in
set_option maxHeartbeats 4000000 in
theorem same2_ref (u v : Value) (l : List Bs) (hl : l.length ≤ 90000) (w : World) (h1 : HoldT w u l) (h2 : HoldT w v l) : Calls Tryd.prog 26 #[u, v] w fun e w' => e = .returned (.bool true) ∧ ∃ q, w' = w.drewN q := by
  obtain ⟨a1, c1, b1, o1, rfl, hc1, ha1, hl1⟩ := h1
  obtain ⟨a2, c2, b2, o2, rfl, hc2, ha2, hl2⟩ := h2
  have H1 := Lib.hid hl1
  have H2 := Lib.hid hl2
  obtain ⟨n, hN⟩ : ∃ n, l.length = n := ⟨_, rfl⟩
  rw [hN] at hc1 ha1 hc2 ha2 hl ⊢
  have HN := Lib.hid hN
  clear hl1 hl2 hN
  go_enter Tryd.func26, Tryd.ntmps26
  go_wp2
  go_loopw [5] (fun i wr => ∃ k : Nat, k ≤ n ∧ i = .int .i64 k ∧ Hid (∃ q, wr = w.drewN q)) (fun i _ => n - (intOf i).toNat)
  case atStart => exact ⟨0, by omega, rfl, Lib.hid ⟨0, rfl⟩⟩
  case round =>
    obtain ⟨k, hk, rfl, HQ⟩ := hrel
    by_cases hlt : k < n
    · obtain ⟨rfl, hbw1⟩ := ha1 (by omega)
      obtain ⟨rfl, hbw2⟩ := ha2 (by omega)
      obtain ⟨x, hx⟩ : ∃ x, l[k]? = some x := ⟨_, List.getElem?_eq_getElem (by rw [HN.out]; exact hlt)⟩
      obtain ⟨q, hw⟩ := HQ.out
      have d0 := H1.out k x hx
      have f0 := H2.out k x hx
      rw [← World.cell?_drewN w q] at d0 f0
      rw [← hw] at d0 f0
      have HMM : Hid (∀ m', ∃ q, wr.drewN m' = w.drewN q) := Lib.hid (fun m' => ⟨q + m', by rw [hw, World.drewN_drewN]⟩)
      generalize (⟨x.toArray⟩ : ByteArray) = X at *
      have q0 := eqT X X
      rw [decide_eq_true rfl] at q0
      clear hx hw HQ
      go_wp2
      go_quiet (fail)
      go_wp2
      go_roundw
      case rel => exact ⟨k + 1, by omega, by go_num, Lib.hid (HMM.out _)⟩
      case measure => simp [intOf]; omega
    · obtain rfl : k = n := by omega
      clear hlt
      go_wp2
      go_ret
      exact ⟨rfl, HQ.out⟩
theorem same2_below (u v : Value) (l : List Bs) (hl : l.length ≤ 90000) (w : World) (h1 : HoldT w u l) (h2 : HoldT w v l) : Calls Tryd.prog 26 #[u, v] w fun e w' => e = .returned (.bool true) ∧ Below w.heap.size w w' := (same2_ref u v l hl w h1 h2).mono (fun e w' ⟨he, q, hq⟩ => ⟨he, by rw [hq]; exact belowQ (Below.refl _ _) q⟩)
theorem two_on {wr V V' : World} {b1 o1 b2 o2 : Nat} {x1 y1 x2 y2 : Value} (h : V.cell? ⟨b1, o1, none⟩ = some x1 ∧ V.cell? ⟨b1, o1 + 1, none⟩ = some y1 ∧ V.cell? ⟨b2, o2, none⟩ = some x2 ∧ V.cell? ⟨b2, o2 + 1, none⟩ = some y2 ∧ Below wr.heap.size wr V) (hb : Below V.heap.size V V') :
    V'.cell? ⟨b1, o1, none⟩ = some x1 ∧ V'.cell? ⟨b1, o1 + 1, none⟩ = some y1 ∧ V'.cell? ⟨b2, o2, none⟩ = some x2 ∧ V'.cell? ⟨b2, o2 + 1, none⟩ = some y2 ∧ Below wr.heap.size wr V' := by
  obtain ⟨h1, h2, h3, h4, h5⟩ := h
  exact ⟨(hb.cell (World.block_lt_of_cell? V _ h1)).trans h1, (hb.cell (World.block_lt_of_cell? V _ h2)).trans h2, (hb.cell (World.block_lt_of_cell? V _ h3)).trans h3, (hb.cell (World.block_lt_of_cell? V _ h4)).trans h4, h5.trans (hb.mono h5.size)⟩
theorem two_dr {wr V : World} {b1 o1 b2 o2 : Nat} {x1 y1 x2 y2 : Value} (h : V.cell? ⟨b1, o1, none⟩ = some x1 ∧ V.cell? ⟨b1, o1 + 1, none⟩ = some y1 ∧ V.cell? ⟨b2, o2, none⟩ = some x2 ∧ V.cell? ⟨b2, o2 + 1, none⟩ = some y2 ∧ Below wr.heap.size wr V) :
    V.drew.cell? ⟨b1, o1, none⟩ = some x1 ∧ V.drew.cell? ⟨b1, o1 + 1, none⟩ = some y1 ∧ V.drew.cell? ⟨b2, o2, none⟩ = some x2 ∧ V.drew.cell? ⟨b2, o2 + 1, none⟩ = some y2 ∧ Below wr.heap.size wr V.drew := two_on h (Below.refl _ _).drew
theorem two_be {wr V : World} {b1 o1 b2 o2 : Nat} {x1 y1 x2 y2 : Value} (h : V.cell? ⟨b1, o1, none⟩ = some x1 ∧ V.cell? ⟨b1, o1 + 1, none⟩ = some y1 ∧ V.cell? ⟨b2, o2, none⟩ = some x2 ∧ V.cell? ⟨b2, o2 + 1, none⟩ = some y2 ∧ Below wr.heap.size wr V) : Below wr.heap.size wr V := h.2.2.2.2
set_option maxRecDepth 100000 in
set_option maxHeartbeats 8000000 in
theorem same13_ref (u v : Value) (L M : List Lp) (hLM : L.map (·.1) = M.map (·.1)) (hl : L.length ≤ 90000) (hp : ∀ p ∈ L, p.1.2.length ≤ 90000) (w : World) (h1 : HoldL w u L) (h2 : HoldL w v M) : Calls Tryd.prog 17 #[u, v] w fun e w' => e = .returned (.bool true) ∧ Below w.heap.size w w' := by
  have hlm : M.length = L.length := by have := congrArg List.length hLM; simpa using this.symm
  obtain ⟨i1, a1, c1, b1, o1, rfl, hc1, ha1, hl1⟩ := h1
  obtain ⟨i2, a2, c2, b2, o2, rfl, hc2, ha2, hl2⟩ := h2
  have H1 := Lib.hid hl1
  have H2 := Lib.hid hl2
  have HI1 := Lib.hid i1
  have HI2 := Lib.hid i2
  have HPL := Lib.hid hp
  have HLM : Hid (∀ (k : Nat) p r, L[k]? = some p → M[k]? = some r → r.1 = p.1) := Lib.hid (fun k p r hp hr => by
    have := congrArg (fun l => l[k]?) hLM
    simp only [List.getElem?_map, hp, hr, Option.map_some, Option.some.injEq] at this
    exact this.symm)
  obtain ⟨n, hN⟩ : ∃ n, L.length = n := ⟨_, rfl⟩
  rw [hlm] at hc2 ha2 ⊢
  rw [hN] at hc1 ha1 hc2 ha2 hl hlm ⊢
  have HN := Lib.hid hN
  have HM := Lib.hid hlm
  clear hl1 hl2 hN hlm hLM hp i1 i2
  go_enter Tryd.func17, Tryd.ntmps17
  go_wp2
  go_loopw [5] (fun i wr => ∃ k : Nat, k ≤ n ∧ i = .int .i64 k ∧ Hid (Below w.heap.size w wr)) (fun i _ => n - (intOf i).toNat)
  case atStart => exact ⟨0, by omega, rfl, Lib.hid (Below.refl _ _)⟩
  case round =>
    obtain ⟨k, hk, rfl, HB⟩ := hrel
    have hsz := HB.out.size
    by_cases hlt : k < n
    · obtain ⟨rfl, hbw1⟩ := ha1 (by omega)
      obtain ⟨rfl, hbw2⟩ := ha2 (by omega)
      obtain ⟨p, hp⟩ : ∃ x, L[k]? = some x := ⟨_, List.getElem?_eq_getElem (by rw [HN.out]; exact hlt)⟩
      obtain ⟨r, hr⟩ : ∃ x, M[k]? = some x := ⟨_, List.getElem?_eq_getElem (by rw [HM.out]; exact hlt)⟩
      have he := HLM.out k p r hp hr
      obtain ⟨d0, d1⟩ := H1.out k p hp
      obtain ⟨f0, f1⟩ := H2.out k r hr
      rw [← HB.out.cell (p := ⟨b1, o1 + k * 2, none⟩) hbw1] at d0
      rw [← HB.out.cell (p := ⟨b1, o1 + k * 2 + 1, none⟩) hbw1] at d1
      rw [← HB.out.cell (p := ⟨b2, o2 + k * 2, none⟩) hbw2] at f0
      rw [← HB.out.cell (p := ⟨b2, o2 + k * 2 + 1, none⟩) hbw2] at f1
      have SA := fun V (hb : Below wr.heap.size wr V) => same2_below p.2 r.2 p.1.2 (HPL.out p (List.mem_of_getElem? hp)) V ((HI1.out p (List.mem_of_getElem? hp)).on (HB.out.trans (hb.mono hsz))) (by have := (HI2.out r (List.mem_of_getElem? hr)).on (HB.out.trans (hb.mono hsz)); rwa [he] at this)
      rw [he] at f0
      generalize bsT p.1.1 = X at *
      generalize p.2 = y1 at *
      generalize r.2 = y2 at *
      have q0 := eqT X X
      rw [decide_eq_true rfl] at q0
      clear hp hr he HLM HPL H1 H2 HI1 HI2 hbw1 hbw2
      have hs := And.intro d0 (And.intro d1 (And.intro f0 (And.intro f1 (Below.refl wr.heap.size wr))))
      have hB := Below.refl wr.heap.size wr
      go_wp2
      go_region_held3 (fun V => V.cell? ⟨b1, o1 + k * 2, none⟩ = some (.string X) ∧ V.cell? ⟨b1, o1 + k * 2 + 1, none⟩ = some y1 ∧ V.cell? ⟨b2, o2 + k * 2, none⟩ = some (.string X) ∧ V.cell? ⟨b2, o2 + k * 2 + 1, none⟩ = some y2 ∧ Below wr.heap.size wr V)
        (first | assumption | exact hs | exact two_dr hs | exact two_on (by assumption) (by assumption))
        ((go_at_call 26; (with_reducible refine (SA _ (two_be (b1 := b1) (o1 := o1 + k * 2) (b2 := b2) (o2 := o2 + k * 2) (x1 := .string X) (y1 := y1) (x2 := .string X) (y2 := y2) (by assumption))).mono ?_); rintro e w3 ⟨rfl, hb⟩))
      all_goals
        rename_i hHeld
        have HB3 := Lib.hid (HB.out.trans ((two_be hHeld).mono hsz))
        clear hHeld
        go_wp2
        go_roundw
        case rel => exact ⟨k + 1, by omega, by go_num, HB3⟩
        case measure => simp [intOf]; omega
    · obtain rfl : k = n := by omega
      clear hlt
      go_wp2
      go_ret
      exact ⟨rfl, HB.out⟩
end Go.Proofs.YtogkickaebmeoaaDoor
