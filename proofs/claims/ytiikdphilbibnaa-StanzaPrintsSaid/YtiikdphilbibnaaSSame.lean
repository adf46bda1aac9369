/-
  The reference's Same of two lists of stanzas that are alike.
-/
import Derived.Test.YtiikdphilbibnaaSHead
import Derived.Laws.StructEq
namespace Go.Proofs.Ytiikdphilbibnaa
open Go.RowKit
set_option maxRecDepth 100000 in
set_option maxHeartbeats 8000000 in
theorem same_ref6 (u v : Value) (l : List (List Fld)) (hl : l.length ≤ 10000) (hll : ∀ st ∈ l, st.length ≤ 10000) (w : World) (h1 : HoldRR 2 w u (l.map (·.map rowF))) (h2 : HoldRR 2 w v (l.map (·.map rowF))) :
    Calls Try.prog 13 #[u, v] w fun e w' => e = .returned (.bool true) ∧ ∃ q, w' = w.drewN q := by
  obtain ⟨a1, c1, b1, o1, rfl, hc1, ha1, hl1⟩ := h1
  obtain ⟨a2, c2, b2, o2, rfl, hc2, ha2, hl2⟩ := h2
  simp only [List.length_map] at hc1 ha1 hc2 ha2 ⊢
  have H1 := Lib.hid (fun (i : Nat) (st : List Fld) (hi : l[i]? = some st) => hl1 i (st.map rowF) (by simp [hi]))
  have H2 := Lib.hid (fun (i : Nat) (st : List Fld) (hi : l[i]? = some st) => hl2 i (st.map rowF) (by simp [hi]))
  have HS := Lib.hid hll
  obtain ⟨n, hN⟩ : ∃ n, l.length = n := ⟨_, rfl⟩
  rw [hN] at hc1 ha1 hc2 ha2 hl ⊢
  have HN := Lib.hid hN
  clear hl1 hl2 hll hN
  go_enter Try.func13, Try.ntmps13
  go_wp2
  go_loopw [5] (fun i wr => ∃ k : Nat, k ≤ n ∧ i = .int .i64 k ∧ Hid (∃ q, wr = w.drewN q)) (fun i _ => n - (intOf i).toNat)
  case atStart => exact ⟨0, by omega, rfl, Lib.hid ⟨0, rfl⟩⟩
  case round =>
    obtain ⟨k, hk, rfl, HQ⟩ := hrel
    obtain ⟨wo, rfl⟩ : ∃ wo : World, wo = wr := ⟨_, rfl⟩
    by_cases hlt : k < n
    · obtain ⟨rfl, hbw1⟩ := ha1 (by omega)
      obtain ⟨rfl, hbw2⟩ := ha2 (by omega)
      obtain ⟨st, hst⟩ : ∃ st, l[k]? = some st := ⟨_, List.getElem?_eq_getElem (by rw [HN.out]; exact hlt)⟩
      obtain ⟨x1, hx1, hr1⟩ := H1.out k st hst
      obtain ⟨x2, hx2, hr2⟩ := H2.out k st hst
      obtain ⟨p1, d1, e1, f1, rfl, hd1, hp1, -⟩ := id hr1
      obtain ⟨p2, d2, e2, f2, rfl, hd2, hp2, -⟩ := id hr2
      have hm1 := HS.out _ (List.mem_of_getElem? hst)
      simp only [List.length_map] at hd1 hp1 hd2 hp2 hr1 hr2 hx1 hx2
      obtain ⟨m, hM⟩ : ∃ m, st.length = m := ⟨_, rfl⟩
      rw [hM] at hd1 hp1 hd2 hp2 hr1 hr2 hm1 hx1 hx2
      have HM := Lib.hid hM
      have HR1 := Lib.hid hr1
      have HR2 := Lib.hid hr2
      have HX : ∀ q, (w.drewN q).cell? ⟨b1, o1 + k, none⟩ = some (.slice p1 m d1) ∧ (w.drewN q).cell? ⟨b2, o2 + k, none⟩ = some (.slice p2 m d2) := fun q => by
        rw [World.cell?_drewN, World.cell?_drewN]; exact ⟨hx1, hx2⟩
      have HXX := Lib.hid HX
      obtain ⟨y1, y2⟩ : wo.cell? ⟨b1, o1 + k, none⟩ = some (.slice p1 m d1) ∧ wo.cell? ⟨b2, o2 + k, none⟩ = some (.slice p2 m d2) := by
        obtain ⟨q, rfl⟩ := HQ.out; exact HX q
      clear hx1 hx2 hr1 hr2 hM HX hst
      go_wp2
      go_quiet (fail)
      go_wp2
      go_loopw [6] (fun i' wr => ∃ t : Nat, t ≤ m ∧ i' = .int .i64 t ∧ Hid (∃ q, wr = w.drewN q)) (fun i' _ => m - (intOf i').toNat)
      case atStart => exact ⟨0, by omega, rfl, Lib.hid (by obtain ⟨q, rfl⟩ := HQ.out; exact ⟨_, World.drewN_drewN _ _ _⟩)⟩
      case round =>
        obtain ⟨t, ht, rfl, HQ3⟩ := hrel
        obtain ⟨z1, z2⟩ : wr.cell? ⟨b1, o1 + k, none⟩ = some (.slice p1 m d1) ∧ wr.cell? ⟨b2, o2 + k, none⟩ = some (.slice p2 m d2) := by
          obtain ⟨q, rfl⟩ := HQ3.out; exact HXX.out q
        by_cases htm : t < m
        · obtain ⟨rfl, hbi1⟩ := hp1 (by omega)
          obtain ⟨rfl, hbi2⟩ := hp2 (by omega)
          obtain ⟨f, hf⟩ : ∃ f, st[t]? = some f := ⟨_, List.getElem?_eq_getElem (by rw [HM.out]; exact htm)⟩
          obtain ⟨x, hx⟩ : ∃ x : ByteArray, x.data.toList = f.1 := ⟨⟨(f.1).toArray⟩, by simp⟩
          obtain ⟨y, hy⟩ : ∃ y : ByteArray, y.data.toList = f.2 := ⟨⟨(f.2).toArray⟩, by simp⟩
          have G1 : wr.cell? ⟨e1, f1 + t * 2, none⟩ = some (.string x) ∧ wr.cell? ⟨e1, f1 + t * 2 + 1, none⟩ = some (.string y) := by
            obtain ⟨q, rfl⟩ := HQ3.out
            rw [World.cell?_drewN, World.cell?_drewN]; exact rowF_cells HR1.out hf hx hy
          have G2 : wr.cell? ⟨e2, f2 + t * 2, none⟩ = some (.string x) ∧ wr.cell? ⟨e2, f2 + t * 2 + 1, none⟩ = some (.string y) := by
            obtain ⟨q, rfl⟩ := HQ3.out
            rw [World.cell?_drewN, World.cell?_drewN]; exact rowF_cells HR2.out hf hx hy
          obtain ⟨g1, g2⟩ := G1
          obtain ⟨g3, g4⟩ := G2
          have HMM : Hid (∀ m', ∃ q, wr.drewN m' = w.drewN q) := Lib.hid (fun m' => by obtain ⟨q, hq⟩ := HQ3.out; exact ⟨q + m', by rw [hq, World.drewN_drewN]⟩)
          clear hf hx hy
          go_wp2
          go_quiet (fail)
          go_wp2
          go_roundw
          case rel => exact ⟨t + 1, by omega, by go_num, Lib.hid (HMM.out _)⟩
          case measure => simp [intOf]; omega
        · obtain rfl : t = m := by omega
          clear htm
          go_wp2
          go_roundw
          case rel => exact ⟨k + 1, by omega, by go_num, HQ3⟩
          case measure => simp [intOf]; omega
    · obtain rfl : k = n := by omega
      clear hlt ha1 ha2
      go_wp2
      go_ret
      exact ⟨rfl, HQ.out⟩
end Go.Proofs.Ytiikdphilbibnaa
