/-
  cellarerlaw06's few: what it returns; nothing old turns.
-/
import Derived.Test.YtiikdphilbibnaaSParse
namespace Go.Proofs.Ytiikdphilbibnaa
open Go.RowKit
abbrev vF (f : Fld) : Nat := f.1.length + f.2.length + 1
abbrev vFs (st : List Fld) : Nat := (st.map vF).sum
abbrev vS (l : List (List Fld)) : Nat := (l.map vFs).sum
structure Few (l : List (List Fld)) : Prop where
  n : l.length ≤ 70
  ns : ∀ st ∈ l, st.length ≤ 70
  v : vS l ≤ 3000
theorem w_of_v (st : List Fld) : wFs st ≤ 3 * vFs st := by
  induction st with
  | nil => simp [wFs, vFs]
  | cons f st ih => simp only [wFs, vFs, wF, vF, List.map_cons, List.sum_cons] at *; omega
theorem wS_of_v (l : List (List Fld)) : wS l ≤ 3 * vS l + l.length := by
  induction l with
  | nil => simp [wS, vS]
  | cons st l ih =>
    have := w_of_v st
    simp only [wS, vS, List.map_cons, List.sum_cons, List.length_cons] at *; omega
theorem Few.small {l : List (List Fld)} (h : Few l) : Small l 10000 := small_of (by have := wS_of_v l; have := h.n; have := h.v; omega)
theorem vFs_take {st : List Fld} {t : Nat} {f : Fld} (h : st[t]? = some f) : vFs (st.take (t + 1)) = vFs (st.take t) + vF f := by
  rw [List.take_add_one, h]; simp [vFs]
theorem vS_take {l : List (List Fld)} {j : Nat} {st : List Fld} (h : l[j]? = some st) : vS (l.take (j + 1)) = vS (l.take j) + vFs st := by
  rw [List.take_add_one, h]; simp [vS]
def FewPost (l : List (List Fld)) (w : World) (e : Ending) (w' : World) : Prop := ∃ fb, e = .returned (.bool fb) ∧ (fb = true → Few l) ∧ ∃ q, w' = w.drewN q
set_option maxRecDepth 100000 in
set_option maxHeartbeats 8000000 in
theorem few_any (v : Value) (l : List (List Fld)) (w : World) (h : HoldRR 2 w v (l.map (·.map rowF))) :
    Calls Try.prog 9 #[v] w (FewPost l w) := by
  have HP : Hid (∀ fb w', (fb = true → Few l) → (∃ q, w' = w.drewN q) → FewPost l w (.returned (.bool fb)) w') := Lib.hid (fun fb w' h1 h2 => ⟨fb, rfl, h1, h2⟩)
  obtain ⟨a, c, b, o, rfl, hc, ha, hcell⟩ := h
  simp only [List.length_map] at hc ha ⊢
  have HC := Lib.hid (fun (i : Nat) (st : List Fld) (hi : l[i]? = some st) => hcell i (st.map rowF) (by simp [hi]))
  obtain ⟨n, hN⟩ : ∃ n, l.length = n := ⟨_, rfl⟩
  rw [hN] at hc ha ⊢
  have HN := Lib.hid hN
  clear hcell hN
  by_cases h70 : 70 < n
  · go_enter Try.func9, Try.ntmps9
    go_wp2
    go_ret
    exact HP.out false _ (fun h => by cases h) ⟨0, rfl⟩
  go_enter Try.func9, Try.ntmps9
  go_wp2
  go_loopw [3, 4] (fun z i wr => ∃ k s : Nat, k ≤ n ∧ i = .int .i64 k ∧ z = .int .i64 s ∧ s ≤ 3000 ∧ Hid (vS (l.take k) = s ∧ ∀ (j : Nat) st, j < k → l[j]? = some st → st.length ≤ 70) ∧ Hid (∃ q, wr = w.drewN q)) (fun _ i _ => n - (intOf i).toNat)
  case atStart => exact ⟨0, 0, by omega, rfl, rfl, by omega, Lib.hid ⟨rfl, fun j st hj => by omega⟩, Lib.hid ⟨0, rfl⟩⟩
  case round =>
    obtain ⟨k, s, hk, rfl, rfl, hs, HV, HQ⟩ := hrel
    obtain ⟨wo, rfl⟩ : ∃ wo : World, wo = wr := ⟨_, rfl⟩
    by_cases hlt : k < n
    · obtain ⟨rfl, hbw⟩ := ha (by omega)
      obtain ⟨st, hst⟩ : ∃ st, l[k]? = some st := ⟨_, List.getElem?_eq_getElem (by rw [HN.out]; exact hlt)⟩
      obtain ⟨u, hu, hr⟩ := HC.out k st hst
      obtain ⟨ai, ci, bi, oi, rfl, hci, hai, -⟩ := id hr
      simp only [List.length_map] at hu hci hai hr
      obtain ⟨m, hM⟩ : ∃ m, st.length = m := ⟨_, rfl⟩
      rw [hM] at hu hci hai hr
      have HM := Lib.hid hM
      have HST := Lib.hid hst
      have HR := Lib.hid hr
      have HU : Hid (∀ q, (w.drewN q).cell? ⟨b, o + k, none⟩ = some (.slice ai m ci)) := Lib.hid (fun q => by rw [World.cell?_drewN]; exact hu)
      have hu2 : wo.cell? ⟨b, o + k, none⟩ = some (.slice ai m ci) := by obtain ⟨q, rfl⟩ := HQ.out; exact HU.out q
      clear hu hr hM hst
      by_cases hm70 : 70 < m
      · go_wp2
        go_ret
        exact HP.out false _ (fun h => by cases h) HQ.out
      · go_wp2
        go_loopw [3, 5] (fun z i' wr => ∃ t s' : Nat, t ≤ m ∧ i' = .int .i64 t ∧ z = .int .i64 s' ∧ s' ≤ 3000 ∧ Hid (vS (l.take k) + vFs (st.take t) = s') ∧ Hid (∃ q, wr = w.drewN q)) (fun _ i' _ => m - (intOf i').toNat)
        case atStart => exact ⟨0, s, by omega, rfl, rfl, hs, Lib.hid (by rw [HV.out.1]; rfl), HQ⟩
        case round =>
          obtain ⟨t, s', ht, rfl, rfl, hs', HV3, HQ3⟩ := hrel
          have hu3 : wr.cell? ⟨b, o + k, none⟩ = some (.slice ai m ci) := by obtain ⟨q, rfl⟩ := HQ3.out; exact HU.out q
          by_cases htm : t < m
          · obtain ⟨rfl, hbi⟩ := hai (by omega)
            obtain ⟨f, hf⟩ : ∃ f, st[t]? = some f := ⟨_, List.getElem?_eq_getElem (by rw [HM.out]; exact htm)⟩
            obtain ⟨x, hx⟩ : ∃ x : ByteArray, x.data.toList = f.1 := ⟨⟨(f.1).toArray⟩, by simp⟩
            obtain ⟨y, hy⟩ : ∃ y : ByteArray, y.data.toList = f.2 := ⟨⟨(f.2).toArray⟩, by simp⟩
            obtain ⟨g1, g2⟩ : wr.cell? ⟨bi, oi + t * 2, none⟩ = some (.string x) ∧ wr.cell? ⟨bi, oi + t * 2 + 1, none⟩ = some (.string y) := by
              obtain ⟨q, rfl⟩ := HQ3.out
              rw [World.cell?_drewN, World.cell?_drewN]; exact rowF_cells HR.out hf hx hy
            have HV4 : Hid (vS (l.take k) + vFs (st.take (t + 1)) = s' + (x.size + y.size + 1)) := Lib.hid (by
              rw [vFs_take hf, ← Nat.add_assoc, HV3.out]; unfold vF; rw [← hx, ← hy, ← sizeOf, ← sizeOf])
            have HMM : Hid (∀ m', ∃ q, wr.drewN m' = w.drewN q) := Lib.hid (fun m' => by obtain ⟨q, hq⟩ := HQ3.out; exact ⟨q + m', by rw [hq, World.drewN_drewN]⟩)
            clear hf hx hy HV3
            have HD : Hid (∃ q, wr.drew = w.drewN q) := Lib.hid (by obtain ⟨q, hq⟩ := HMM.out 1; exact ⟨q, hq⟩)
            go_wp2
            go_region
            obtain ⟨r, hr⟩ : ∃ r : Int, r = ↑s' + (min (↑x.size) 3000 + min (↑y.size) 3000 + 1) := ⟨_, rfl⟩
            rw [← hr]
            by_cases hr3 : 3000 < r
            · clear hr
              go_wp2
              go_ret
              exact HP.out false _ (fun h => by cases h) HD.out
            · obtain rfl : r = ((s' + (x.size + y.size + 1) : Nat) : Int) := by omega
              have hs4 : s' + (x.size + y.size + 1) ≤ 3000 := by omega
              obtain ⟨s4, hs5⟩ : ∃ s4, s4 = s' + (x.size + y.size + 1) := ⟨_, rfl⟩
              rw [← hs5] at hs4 HV4 ⊢
              clear hr hs5 hr3 g1 g2
              go_wp2
              go_roundw
              case rel => exact ⟨t + 1, s4, by omega, by go_num, rfl, hs4, HV4, HD⟩
              case measure => simp [intOf]; omega
          · obtain rfl : t = m := by omega
            have HVN : Hid (vS (l.take (k + 1)) = s' ∧ ∀ (j : Nat) st, j < k + 1 → l[j]? = some st → st.length ≤ 70) := Lib.hid (by
              refine ⟨by rw [vS_take HST.out, ← HV3.out, List.take_of_length_le (l := st) (by rw [HM.out]; omega)], fun j st' hj hst' => ?_⟩
              by_cases e : j = k
              · subst e; rw [HST.out] at hst'; cases hst'; rw [HM.out]; omega
              · exact HV.out.2 j st' (by omega) hst')
            clear htm HV3
            go_wp2
            go_roundw
            case rel => exact ⟨k + 1, s', by omega, by go_num, rfl, hs', HVN, HQ3⟩
            case measure => simp [intOf]; omega
    · obtain rfl : k = n := by omega
      have HF : Hid (Few l) := Lib.hid ⟨by rw [HN.out]; omega, fun st hst => by
        obtain ⟨j, hj, rfl⟩ := List.mem_iff_getElem.1 hst
        exact HV.out.2 j _ (by rw [← HN.out]; exact hj) (List.getElem?_eq_getElem hj), by
        have := HV.out.1; rw [List.take_of_length_le (by rw [HN.out]; omega)] at this; omega⟩
      clear hlt ha HV
      go_wp2
      go_ret
      exact HP.out true _ (fun _ => HF.out) HQ.out
end Go.Proofs.Ytiikdphilbibnaa
