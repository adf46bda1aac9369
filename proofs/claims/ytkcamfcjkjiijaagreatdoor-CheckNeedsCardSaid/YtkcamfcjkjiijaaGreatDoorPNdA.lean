/-
  Versions' Order, Parse, Compare and Holds of the reference at any size, two lists of numbers, and what else the walk of CheckNeeds wants.
-/
import Derived.Test.YtkcamfcjkjiijaaGreatDoorPEcConfW
import Derived.Test.YtkcamfcjkjiijaaGreatDoorPEcFr
import Derived.ProofKit
import Derived.OpenShut
import Derived.Lib.SmallJoins
import Derived.WalkKit
import Derived.Carry
import Derived.LaidMore
import Derived.SevenTiedAt
import Derived.IntWalk
import Derived.BigRegion
import Derived.Deep.RegionHeld3
import Derived.Deep.AppendLies
import Derived.Deep.RegionLaw
import Derived.Laws.StructEq
import Derived.Deep.QuietTactic
import Derived.BigQuiet
import Derived.WalkLawsBesides
namespace Go.Proofs.YtkcamfcjkjiijaaGreatDoor
open Go.ChangeShapes Go.WideShapes Go.ChangeAt Go.RowKit
set_option maxRecDepth 100000 in
theorem open_Kstring {H : Type} {enc : TypeId × Value → H} {W : World} {b0 : Nat} {v : Value} {d : DataW H} {ps : List MemPlace} (hval : Value.okWide Tryz.prog W .any b0 9 v) (hd : DataW.Trod enc Tryz.prog W 0 (fun _ => true) true 9 v d ps) :
    ∃ s : ByteArray, v = .string s ∧ s.size ≤ 9223372036854775807 := by
  obtain ⟨s, rfl, _, _, hs⟩ := Go.ChangeMaps.open_string Tryz.underlying9 hval hd
  exact ⟨s, rfl, hs⟩
end Go.Proofs.YtkcamfcjkjiijaaGreatDoor
namespace Go.Proofs.YtkcamfcjkjiijaaGreatDoor
open Go.RowKit
set_option maxRecDepth 100000 in
set_option maxHeartbeats 4000000 in
theorem dropO_refUa (v : Value) (l : List OvUa) (hl : l.length ≤ 90000) (p : ByteArray) (w : World) (h : HoldOUa w v l) : Calls Tryz.prog 43 #[v, .string p] w (DropPostOUa l p.data.toList w) := by
  obtain ⟨a, c, b, o, rfl, hc, ha, hcell⟩ := h.parts
  have HC := Lib.hid hcell
  obtain ⟨i0, hi, hz0, hz1, hz2'⟩ := info_parts infoOUa
  obtain ⟨n, hN⟩ : ∃ n, l.length = n := ⟨_, rfl⟩
  rw [hN] at hc ha hl ⊢
  have HN := Lib.hid hN
  clear hcell hN h
  go_enter Tryz.func43, Tryz.ntmps43
  go_wp2
  go_loopw [5, 6] (fun u i wr => ∃ k : Nat, k ≤ n ∧ i = .int .i64 k ∧ Hid (OwnOUa wr w.heap.size u (dropOUa (l.take k) p.data.toList)) ∧ Hid (Below w.heap.size w wr)) (fun _ i _ => n - (intOf i).toNat)
  case atStart => exact ⟨0, by omega, rfl, Lib.hid (OwnV.nil _ _ _ _), Lib.hid (Below.refl _ _)⟩
  case round =>
    obtain ⟨k, hk, rfl, HO, HB⟩ := hrel
    have hsz := HB.out.size
    by_cases hlt : k < n
    · obtain ⟨rfl, hbw⟩ := ha (by omega)
      obtain ⟨⟨q0, q1, q2, ⟨q3a, q3n, q3c⟩, ⟨q4a, q4n, q4c⟩, ⟨q5a, q5n, q5c⟩, ⟨q6a, q6n, q6c⟩, ⟨q7a, q7n, q7c⟩, ⟨q8a, q8n, q8c⟩⟩, hx⟩ : ∃ x, l[k]? = some x := ⟨_, List.getElem?_eq_getElem (by rw [HN.out]; exact hlt)⟩
      obtain ⟨c0, c1, c2, c3, c4, c5, c6, c7, c8⟩ := HC.out k _ hx
      dsimp only at c0 c1 c2 c3 c4 c5 c6 c7 c8
      rw [← HB.out.cell (p := ⟨b, o + k * 9, none⟩) hbw] at c0
      rw [← HB.out.cell (p := ⟨b, o + k * 9 + 1, none⟩) hbw] at c1
      rw [← HB.out.cell (p := ⟨b, o + k * 9 + 2, none⟩) hbw] at c2
      rw [← HB.out.cell (p := ⟨b, o + k * 9 + 3, none⟩) hbw] at c3
      rw [← HB.out.cell (p := ⟨b, o + k * 9 + 4, none⟩) hbw] at c4
      rw [← HB.out.cell (p := ⟨b, o + k * 9 + 5, none⟩) hbw] at c5
      rw [← HB.out.cell (p := ⟨b, o + k * 9 + 6, none⟩) hbw] at c6
      rw [← HB.out.cell (p := ⟨b, o + k * 9 + 7, none⟩) hbw] at c7
      rw [← HB.out.cell (p := ⟨b, o + k * 9 + 8, none⟩) hbw] at c8
      have hlen : (dropOUa (l.take k) p.data.toList).length ≤ 90000 := Nat.le_trans (dropO_lenUa _ _) (by rw [List.length_take]; omega)
      have hq := eqT (bsT q0) p
      rw [bytesOf] at hq
      by_cases he : q0 = p.data.toList
      · rw [decide_eq_true he] at hq
        have HK : Hid (dropOUa (l.take (k + 1)) p.data.toList = dropOUa (l.take k) p.data.toList) := Lib.hid (dropO_skipUa hx he)
        generalize bsT q0 = X at *
        clear he hx
        go_wp2
        go_roundw
        case rel => exact ⟨k + 1, by omega, by go_num, Lib.hid (by rw [HK.out]; exact HO.out), HB⟩
        case measure => simp [intOf]; omega
      · rw [decide_eq_false he] at hq
        have HK : Hid (dropOUa (l.take (k + 1)) p.data.toList = dropOUa (l.take k) p.data.toList ++ [(q0, q1, q2, (q3a, q3n, q3c), (q4a, q4n, q4c), (q5a, q5n, q5c), (q6a, q6n, q6c), (q7a, q7n, q7c), (q8a, q8n, q8c))]) := Lib.hid (dropO_keepUa hx he)
        have HX : Hid ((bsT q0).data.toList = q0) := Lib.hid (bytesOf _)
        generalize bsT q0 = X at *
        clear he hx
        go_wp2_with (first
          | (at_builtin; refine wpList_append_own _ rfl _ _ 22 rfl w.heap.size 71 i0 _ 9 184 Tryz.underlying22 hi hz0 hz1 hz2' rfl (by decide) _ _ _ rfl (World.ownsRow.alloc HO.out.2 _) ⟨wr.heap.size, 0, none⟩ 1 1 [.string X, .string q1, .int .i64 q2, .slice q3a q3n q3c, .slice q4a q4n q4c, .slice q5a q5n q5c, .slice q6a q6n q6c, .slice q7a q7n q7c, .slice q8a q8n q8c] rfl rfl (by intro j u hj; match j, hj with | 0, hj => simp at hj; subst hj; simp [Addr.add] | 1, hj => simp at hj; subst hj; simp [Addr.add] | 2, hj => simp at hj; subst hj; simp [Addr.add] | 3, hj => simp at hj; subst hj; simp [Addr.add] | 4, hj => simp at hj; subst hj; simp [Addr.add] | 5, hj => simp at hj; subst hj; simp [Addr.add] | 6, hj => simp at hj; subst hj; simp [Addr.add] | 7, hj => simp at hj; subst hj; simp [Addr.add] | 8, hj => simp at hj; subst hj; simp [Addr.add]) (by intro u hu; simp at hu; rcases hu with rfl | rfl | rfl | rfl | rfl | rfl | rfl | rfl | rfl <;> rfl) (by rw [List.length_map]; unfold maxLen; omega) (by rw [List.length_map]; omega) (by simp; omega) ?_))
        intro v' w3 hown' hgrow _
        have HO3 : Hid (OwnOUa w3 w.heap.size v' (dropOUa (l.take (k + 1)) p.data.toList)) := Lib.hid (by rw [HK.out]; exact OwnOUa.app (x := (q0, q1, q2, (q3a, q3n, q3c), (q4a, q4n, q4c), (q5a, q5n, q5c), (q6a, q6n, q6c), (q7a, q7n, q7c), (q8a, q8n, q8c))) HX.out (by first | exact hown' | (rw [List.length_map] at hown'; exact hown')))
        have HB3 : Hid (Below w.heap.size w w3) := Lib.hid (OwnV.below HB.out HO.out hgrow (Nat.le_refl _) (by omega))
        clear hown' hgrow
        go_wp2
        go_roundw
        case rel => exact ⟨k + 1, by omega, by go_num, HO3, HB3⟩
        case measure => simp [intOf]; omega
    · obtain rfl : k = n := by omega
      have HF : Hid (l.take k = l) := Lib.hid (by rw [← HN.out, List.take_length])
      rw [HF.out] at HO
      clear hlt
      go_wp2
      go_ret
      exact ⟨_, rfl, HO.out, HB.out⟩
end Go.Proofs.YtkcamfcjkjiijaaGreatDoor
namespace Go.Proofs.YtkcamfcjkjiijaaGreatDoor
open Go.RowKit Go.Shelf
theorem news3Q {w : World} (X Y : ByteArray) (t : TypeId) : ∀ j u, [Value.string X, .string ⟨#[]⟩, .string Y][j]? = some u → (w.alloc (.cells #[.string X, .string ⟨#[]⟩, .string Y] t)).cell? ((⟨w.heap.size, 0, none⟩ : Addr).add j) = some u := by
  intro j u hj
  match j, hj with
  | 0, hj => cases hj; simp [Addr.add, World.cell?_alloc_new]
  | 1, hj => cases hj; simp [Addr.add, World.cell?_alloc_new]
  | 2, hj => cases hj; simp [Addr.add, World.cell?_alloc_new]
  | j + 3, hj => simp at hj
set_option maxRecDepth 100000 in
set_option maxHeartbeats 8000000 in
theorem there_ref (v : Value) (l : List Uv) (hl : l.length ≤ 90000) (w : World) (h : HoldU w v l) : Calls Tryz.prog 12 #[v] w fun e w' => ∃ r, e = .returned r ∧ OwnQ w' w.heap.size r (thereU l) ∧ Below w.heap.size w w' := by
  obtain ⟨a, c, b, o, rfl, hc, ha, hcell⟩ := h.parts
  obtain ⟨i0, hi, hz0, hz1, hz2'⟩ := info_parts infoQ
  have HC := Lib.hid hcell
  obtain ⟨n, hN⟩ : ∃ n, l.length = n := ⟨_, rfl⟩
  rw [hN] at hc ha hl ⊢
  have HN := Lib.hid hN
  clear hcell hN h
  go_enter Tryz.func12, Tryz.ntmps12
  go_wp2
  go_loopw [3, 4] (fun u i wr => ∃ (k : Nat), k ≤ n ∧ i = .int .i64 k ∧ Hid (OwnQ wr w.heap.size u (thereU (l.take k))) ∧ Hid (Below w.heap.size w wr)) (fun _ i _ => n - (intOf i).toNat)
  case atStart => exact ⟨0, by omega, rfl, Lib.hid (by rw [List.take_zero]; exact OwnV.nil _ _ _ _), Lib.hid (Below.refl _ _)⟩
  case round =>
    obtain ⟨k, hk, rfl, HO, HB⟩ := hrel
    have hsz := HB.out.size
    by_cases hlt : k < n
    · obtain ⟨rfl, hbw⟩ := ha (by omega)
      obtain ⟨x, hx⟩ : ∃ x, l[k]? = some x := ⟨_, List.getElem?_eq_getElem (by rw [HN.out]; exact hlt)⟩
      have htk := there_take hx
      have hlen : (thereU (l.take k)).length ≤ k := Nat.le_trans (there_len _) (by rw [List.length_take]; omega)
      obtain ⟨x0, x1, x2, -⟩ := HC.out k _ hx
      rw [← HB.out.cell (p := ⟨b, o + k * 9, none⟩) hbw] at x0
      rw [← HB.out.cell (p := ⟨b, o + k * 9 + 1, none⟩) hbw] at x1
      rw [← HB.out.cell (p := ⟨b, o + k * 9 + 2, none⟩) hbw] at x2
      have HXX : Hid ((⟨x.nm.toArray⟩ : ByteArray).data.toList = x.nm ∧ (⟨x.vr.toArray⟩ : ByteArray).data.toList = x.vr) := Lib.hid ⟨by simp, by simp⟩
      obtain ⟨T, hT⟩ : ∃ T, thereU (l.take k) = T := ⟨_, rfl⟩
      rw [hT] at htk hlen HO
      have HTK := Lib.hid htk
      obtain ⟨z, hz⟩ : ∃ z, x.st = z := ⟨_, rfl⟩
      rw [hz] at x2 HTK
      generalize (⟨x.nm.toArray⟩ : ByteArray) = X0 at *
      generalize (⟨x.vr.toArray⟩ : ByteArray) = X1 at *
      have j0 : (0 : Int) ≤ (k : Int) := by omega
      have j1 : (k : Int) < (n : Int) := by omega
      clear hx hT htk hz
      by_cases hz : isThere z = true
      · have HT2 : Hid (thereU (l.take (k + 1)) = T ++ [(x.nm, [], x.vr)]) := Lib.hid (by rw [HTK.out, if_pos hz])
        have hz2 : (z == 7) = true ∨ ((z == 7) = false ∧ (z == 6) = true) := by
          unfold isThere at hz
          rw [Bool.or_eq_true, decide_eq_true_eq, decide_eq_true_eq] at hz
          rcases hz with g | g
          · exact .inl (by rw [g]; rfl)
          · exact .inr ⟨by rw [g]; rfl, by rw [g]; rfl⟩
        have HLT : Hid (T.length ≤ k) := Lib.hid hlen
        obtain ⟨ua, uc, -, -, hv, -⟩ := HO.out.holds
        rw [List.length_map] at hv
        subst hv
        have HOA : Hid (OwnQ (wr.alloc (.cells #[.string X0, .string ⟨#[]⟩, .string X1] 75)).drew w.heap.size (.slice ua T.length uc) T) := Lib.hid (OwnV.on HO.out ((Below.refl _ _).alloc (Nat.le_refl _) _).drew)
        have HNW : Hid (∀ j u, [Value.string X0, .string ⟨#[]⟩, .string X1][j]? = some u → (wr.alloc (.cells #[.string X0, .string ⟨#[]⟩, .string X1] 75)).drew.cell? ((⟨wr.heap.size, 0, none⟩ : Addr).add j) = some u) := Lib.hid (fun j u hj => news3Q (w := wr) X0 X1 _ j u hj)
        have HBF : Hid (Below w.heap.size w (wr.alloc (.cells #[.string X0, .string ⟨#[]⟩, .string X1] 75)).drew) := Lib.hid (HB.out.alloc HB.out.size _).drew
        clear HTK hz HO hlen
        rcases hz2 with g7 | ⟨g7, g6⟩
        all_goals
          go_wp2
          go_region_law (refine step_append_lies _ rfl _ _ 32 rfl w.heap.size 75 i0 _ 3 48 Tryz.underlying32 hi hz0 hz1 hz2' rfl (by decide) _ _ _ rfl HOA.out.2 ⟨wr.heap.size, 0, none⟩ 1 1 [.string X0, .string ⟨#[]⟩, .string X1] rfl rfl HNW.out (by simp [Value.oneCell']) (by decide) (by have := HLT.out; unfold maxLen; simp; omega) (by have := HLT.out; simp; omega) (by simp; omega) _ rfl ?_; intro g cap w6 hown' hgrow h4 h5; have HO6 : Hid (OwnQ w6 w.heap.size _ (T ++ [(x.nm, [], x.vr)])) := Lib.hid (OwnQ.app (x := (x.nm, [], x.vr)) HXX.out.1 rfl HXX.out.2 (by simpa using hown')); have HG6 := Lib.hid hgrow; clear hown' hgrow h4 h5)
          all_goals
            have HO7 := HO6
            rw [← HT2.out] at HO7
            have HB6 : Hid (Below w.heap.size w w6) := Lib.hid (HBF.out.grown HG6.out HBF.out.size (fun k hk => by have := (World.ownsRow.lt HOA.out.2 k hk).1; omega))
            clear HG6 HOA HNW HBF HO6
            go_wp2
            go_roundw
            case rel => exact ⟨k + 1, by omega, by go_num, HO7, HB6⟩
            case measure => simp [intOf]; omega
      · have HT2 : Hid (thereU (l.take (k + 1)) = T) := Lib.hid (by rw [HTK.out, if_neg hz, List.append_nil])
        have g7 : (z == 7) = false := by
          unfold isThere at hz
          rw [Bool.not_eq_true, Bool.or_eq_false_iff, decide_eq_false_iff_not, decide_eq_false_iff_not] at hz
          simpa using hz.1
        have g6 : (z == 6) = false := by
          unfold isThere at hz
          rw [Bool.not_eq_true, Bool.or_eq_false_iff, decide_eq_false_iff_not, decide_eq_false_iff_not] at hz
          simpa using hz.2
        have HO5 := HO
        rw [← HT2.out] at HO5
        clear HTK hz HO
        go_wp2
        go_roundw
        case rel => exact ⟨k + 1, by omega, by go_num, HO5, HB⟩
        case measure => simp [intOf]; omega
    · obtain rfl : k = n := by omega
      have HFE : Hid (thereU (l.take k) = thereU l) := Lib.hid (by rw [List.take_of_length_le (by rw [HN.out]; omega)])
      clear hlt
      go_wp2
      go_ret
      exact ⟨_, rfl, by have := HO.out; rw [HFE.out] at this; exact this, HB.out⟩
end Go.Proofs.YtkcamfcjkjiijaaGreatDoor
namespace Go.Proofs.YtkcamfcjkjiijaaGreatDoor
open Go.RowKit
set_option maxRecDepth 100000 in
set_option maxHeartbeats 4000000 in
theorem sameQ_ref (u v : Value) (l : List Rl) (hl : l.length ≤ 90000) (w : World) (h1 : HoldQ w u l) (h2 : HoldQ w v l) : Calls Tryz.prog 10 #[u, v] w fun e w' => e = .returned (.bool true) ∧ ∃ q, w' = w.drewN q := by
  obtain ⟨a1, c1, b1, o1, rfl, hc1, ha1, hl1⟩ := h1.parts
  obtain ⟨a2, c2, b2, o2, rfl, hc2, ha2, hl2⟩ := h2.parts
  have H1 := Lib.hid hl1
  have H2 := Lib.hid hl2
  obtain ⟨n, hN⟩ : ∃ n, l.length = n := ⟨_, rfl⟩
  rw [hN] at hc1 ha1 hc2 ha2 hl ⊢
  have HN := Lib.hid hN
  clear hl1 hl2 hN h1 h2
  go_enter Tryz.func10, Tryz.ntmps10
  go_wp2
  go_loopw [5] (fun i wr => ∃ k : Nat, k ≤ n ∧ i = .int .i64 k ∧ Hid (∃ q, wr = w.drewN q)) (fun i _ => n - (intOf i).toNat)
  case atStart => exact ⟨0, by omega, rfl, Lib.hid ⟨0, rfl⟩⟩
  case round =>
    obtain ⟨k, hk, rfl, HQ⟩ := hrel
    by_cases hlt : k < n
    · obtain ⟨rfl, hbw1⟩ := ha1 (by omega)
      obtain ⟨rfl, hbw2⟩ := ha2 (by omega)
      obtain ⟨⟨t, m, u⟩, hx⟩ : ∃ x, l[k]? = some x := ⟨_, List.getElem?_eq_getElem (by rw [HN.out]; exact hlt)⟩
      obtain ⟨q, hw⟩ := HQ.out
      obtain ⟨d0, d1, d2⟩ := H1.out k _ hx
      obtain ⟨f0, f1, f2⟩ := H2.out k _ hx
      dsimp only at d0 d1 d2 f0 f1 f2
      rw [← World.cell?_drewN w q] at d0 d1 d2 f0 f1 f2
      rw [← hw] at d0 d1 d2 f0 f1 f2
      have HMM : Hid (∀ m', ∃ q, wr.drewN m' = w.drewN q) := Lib.hid (fun m' => ⟨q + m', by rw [hw, World.drewN_drewN]⟩)
      generalize bsT t = X at *
      generalize bsT m = Y at *
      generalize bsT u = Z at *
      have q0 := eqT X X
      rw [decide_eq_true rfl] at q0
      have q1 := eqT Y Y
      rw [decide_eq_true rfl] at q1
      have q2 := eqT Z Z
      rw [decide_eq_true rfl] at q2
      have j0 : (0 : Int) ≤ (k : Int) := by omega
      have j1 : (k : Int) < (n : Int) := by omega
      clear hx hw HQ
      go_wp2
      go_quiet (fail)
      go_wp2
      go_roundw
      case rel => exact ⟨k + 1, by omega, by go_num, Lib.hid (HMM.out _)⟩
      case measure => simp [intOf]; omega
    · obtain rfl : k = n := by omega
      clear hlt
      go_wp2
      go_ret
      exact ⟨rfl, HQ.out⟩
end Go.Proofs.YtkcamfcjkjiijaaGreatDoor
namespace Go.Proofs.YtkcamfcjkjiijaaGreatDoor
open Go.RowKit Go.Sort
theorem below_drewN' {B : Nat} {a w : World} (h : Below B a w) (n : Nat) : Below B a (w.drewN n) := ⟨h.os, h.tape, h.output, h.size, h.block⟩
end Go.Proofs.YtkcamfcjkjiijaaGreatDoor
namespace Go.Proofs.YtkcamfcjkjiijaaGreatDoor
open Go.RowKit
set_option maxHeartbeats 4000000 in
theorem words_refB (a b : ByteArray) (ha : a.size ≤ 9223372036854775807) (hb : b.size ≤ 9223372036854775807) (w : World) : Calls Tryz.prog 152 #[.string a, .string b] w fun e w' => e = .returned (.int .i64 (wcmp a.data.toList b.data.toList)) ∧ w = w' := by
  obtain ⟨R, HR⟩ : ∃ R, Hid (wcmp a.data.toList b.data.toList = R) := ⟨_, rfl⟩
  rw [HR.out]
  have C := fun c w => weight_ref c w
  go_enter Tryz.func152, Tryz.ntmps152
  go_wp2
  go_loop [5] (fun i => ∃ k : Nat, k ≤ max a.size b.size ∧ i = .int .i64 k ∧ Hid (wcmp (a.data.toList.drop k) (b.data.toList.drop k) = R)) (fun i => max a.size b.size - (intOf i).toNat)
  case atStart => exact ⟨0, by omega, rfl, HR⟩
  case round =>
    obtain ⟨k, hk, rfl, H⟩ := hrel
    by_cases hlt : k < a.size ∨ k < b.size
    · have hn := words_next a b k
      rw [H.out] at hn
      have hm : k + 1 ≤ max a.size b.size := by omega
      have fin : ∀ x y : Int, wAt a k = x → wAt b k = y → Hid ((x < y ∧ R = -1) ∨ (y < x ∧ R = 1) ∨ (x = y ∧ wcmp (a.data.toList.drop (k + 1)) (b.data.toList.drop (k + 1)) = R)) := fun x y ex ey => Lib.hid (by
        rw [ex, ey] at hn
        rcases sgn_cases x y with ⟨h, g⟩ | ⟨h, g⟩ | ⟨h, g⟩
        · left; rw [g, if_pos (by omega)] at hn; exact ⟨h, hn⟩
        · right; left; rw [g, if_pos (by omega)] at hn; exact ⟨h, hn⟩
        · right; right; rw [g, if_neg (by omega)] at hn; exact ⟨h, hn.symm⟩)
      clear hn
      by_cases h1 : k < a.size
      · have D1 := C a[k]
        have hb1 := wt_bd a[k]
        have e1 : wAt a k = wt a[k] := by unfold wAt; rw [dif_pos h1]
        have hx1 := a[k].toNat_lt
        by_cases h2 : k < b.size
        · have D2 := C b[k]
          have hb2 := wt_bd b[k]
          have e2 : wAt b k = wt b[k] := by unfold wAt; rw [dif_pos h2]
          have hx2 := b[k].toNat_lt
          have F := fin _ _ e1 e2
          clear e1 e2 fin C hlt
          generalize wt a[k] = x at *
          generalize wt b[k] = y at *
          rcases F.out with ⟨h, g⟩ | ⟨h, g⟩ | ⟨h, g⟩
          · have G := Lib.hid g
            clear g F H HR
            go_wp2_with (first | (go_at_call 164; refine (D1 _).mono ?_; clear D1; rintro e w1 ⟨rfl, rfl⟩) | (go_at_call 164; refine (D2 _).mono ?_; rintro e w1 ⟨rfl, rfl⟩))
            go_ret
            exact ⟨reti G.out.symm, rfl⟩
          · have G := Lib.hid g
            clear g F H HR
            go_wp2_with (first | (go_at_call 164; refine (D1 _).mono ?_; clear D1; rintro e w1 ⟨rfl, rfl⟩) | (go_at_call 164; refine (D2 _).mono ?_; rintro e w1 ⟨rfl, rfl⟩))
            go_ret
            exact ⟨reti G.out.symm, rfl⟩
          · subst h
            have G := Lib.hid g
            clear g F H HR
            go_wp2_with (first | (go_at_call 164; refine (D1 _).mono ?_; clear D1; rintro e w1 ⟨rfl, rfl⟩) | (go_at_call 164; refine (D2 _).mono ?_; rintro e w1 ⟨rfl, rfl⟩))
            go_round
            case rel => exact ⟨k + 1, hm, by go_num, G⟩
            case measure => simp [intOf]; omega
        · have e2 : wAt b k = 0 := by unfold wAt; rw [dif_neg h2]
          have F := fin _ _ e1 e2
          clear e1 e2 fin C hlt
          generalize wt a[k] = x at *
          rcases F.out with ⟨h, g⟩ | ⟨h, g⟩ | ⟨h, g⟩
          · have G := Lib.hid g
            clear g F H HR
            go_wp2_with (go_at_call 164; refine (D1 _).mono ?_; rintro e w1 ⟨rfl, rfl⟩)
            go_ret
            exact ⟨reti G.out.symm, rfl⟩
          · have G := Lib.hid g
            clear g F H HR
            go_wp2_with (go_at_call 164; refine (D1 _).mono ?_; rintro e w1 ⟨rfl, rfl⟩)
            go_ret
            exact ⟨reti G.out.symm, rfl⟩
          · subst h
            have G := Lib.hid g
            clear g F H HR
            go_wp2_with (go_at_call 164; refine (D1 _).mono ?_; rintro e w1 ⟨rfl, rfl⟩)
            go_round
            case rel => exact ⟨k + 1, hm, by go_num, G⟩
            case measure => simp [intOf]; omega
      · have h2 : k < b.size := by omega
        have D2 := C b[k]
        have hb2 := wt_bd b[k]
        have e1 : wAt a k = 0 := by unfold wAt; rw [dif_neg h1]
        have e2 : wAt b k = wt b[k] := by unfold wAt; rw [dif_pos h2]
        have hx2 := b[k].toNat_lt
        have F := fin _ _ e1 e2
        clear e1 e2 fin C hlt
        generalize wt b[k] = y at *
        rcases F.out with ⟨h, g⟩ | ⟨h, g⟩ | ⟨h, g⟩
        · have G := Lib.hid g
          clear g F H HR
          go_wp2_with (go_at_call 164; refine (D2 _).mono ?_; rintro e w1 ⟨rfl, rfl⟩)
          go_ret
          exact ⟨reti G.out.symm, rfl⟩
        · have G := Lib.hid g
          clear g F H HR
          go_wp2_with (go_at_call 164; refine (D2 _).mono ?_; rintro e w1 ⟨rfl, rfl⟩)
          go_ret
          exact ⟨reti G.out.symm, rfl⟩
        · subst h
          have G := Lib.hid g
          clear g F H HR
          go_wp2_with (go_at_call 164; refine (D2 _).mono ?_; rintro e w1 ⟨rfl, rfl⟩)
          go_round
          case rel => exact ⟨k + 1, hm, by go_num, G⟩
          case measure => simp [intOf]; omega
    · have hE : R = 0 := by
        have h := H.out
        rw [List.drop_of_length_le (by rw [← sizeOf]; omega), List.drop_of_length_le (by rw [← sizeOf]; omega)] at h
        rw [← h]; exact lexL_nil _ _
      have HZ := Lib.hid hE
      have h1 : ¬ k < a.size := by omega
      have h2 : ¬ k < b.size := by omega
      clear hE hlt C H HR
      go_wp2
      go_ret
      exact ⟨reti HZ.out.symm, rfl⟩
set_option maxHeartbeats 4000000 in
theorem piece_refB (s : ByteArray) (hs : s.size ≤ 9223372036854775807) (w : World) : Calls Tryz.prog 151 #[.string s] w (PiecePost s w) := by
  have C := fun c w => digit_ref c w
  have hle := digs_le s.data.toList
  rw [← sizeOf] at hle
  have N1 := Lib.hid (nd_lt s)
  have N2 := Lib.hid (nd_at s)
  have N3 := Lib.hid (dg_lt s)
  have N4 := Lib.hid (dg_at s)
  have N5 := Lib.hid (And.intro (ext_nonD s) (And.intro (ext_digs s) (ext_rest s)))
  obtain ⟨R, HR⟩ : ∃ R, Hid (pieceV s = R) := ⟨_, rfl⟩
  have HP : Hid (∀ e w', PiecePost s w e w' ↔ e = .returned R ∧ ∃ q, w' = w.drewN q) := Lib.hid (fun e w' => by unfold PiecePost; rw [HR.out])
  refine Calls.mono (R := fun e w' => e = .returned R ∧ ∃ q, w' = w.drewN q) ?_ (fun e w' h => (HP.out e w').2 h)
  unfold pieceV at HR
  generalize hnd : (nonD s.data.toList).length = nd at *
  generalize hdg : (digs s.data.toList).length = dg at *
  clear hnd hdg HP
  go_enter Tryz.func151, Tryz.ntmps151
  go_wp2
  go_loop [5] (fun i => ∃ k : Nat, k ≤ nd ∧ i = .int .i64 k) (fun i => nd - (intOf i).toNat)
  case atStart => exact ⟨0, by omega, rfl⟩
  case round =>
    obtain ⟨k, hk, rfl⟩ := hrel
    by_cases hlt : k < nd
    · obtain ⟨hks, hd⟩ := N1.out k hlt
      have D := C s[k]
      rw [hd] at D
      have hx := s[k].toNat_lt
      clear hd
      go_wp2_with (go_at_call 128; refine (D _).mono ?_; rintro e w1 ⟨rfl, rfl⟩)
      go_round
      case rel => exact ⟨k + 1, by omega, by go_num⟩
      case measure => simp [intOf]; omega
    · obtain rfl : k = nd := by omega
      clear hlt
      by_cases hks : k < s.size
      case' pos =>
        have hd := N2.out k hks rfl
        have D := C s[k]
        rw [hd] at D
        have hx := s[k].toNat_lt
        clear hd
        go_wp2_with (go_at_call 128; refine (D _).mono ?_; rintro e w1 ⟨rfl, rfl⟩)
        clear D
      case' neg =>
        go_wp2
      all_goals
        go_loop [6] (fun i => ∃ j : Nat, k ≤ j ∧ j ≤ k + dg ∧ i = .int .i64 j) (fun i => k + dg - (intOf i).toNat)
        case atStart => exact ⟨k, by omega, by omega, rfl⟩
        case round =>
          obtain ⟨j, hj1, hj2, rfl⟩ := hrel
          by_cases hjl : j < k + dg
          · obtain ⟨hjs, hd⟩ := N3.out j hj1 hjl
            have D := C s[j]
            rw [hd] at D
            have hx := s[j].toNat_lt
            clear hd
            go_wp2_with (go_at_call 128; refine (D _).mono ?_; rintro e w1 ⟨rfl, rfl⟩)
            go_round
            case rel => exact ⟨j + 1, by omega, by omega, by go_num⟩
            case measure => simp [intOf]; omega
          · obtain rfl : j = k + dg := by omega
            clear hjl hj1 hj2
            by_cases hjs : k + dg < s.size
            case' pos =>
              have hd := N4.out _ hjs rfl
              have D := C s[k + dg]
              rw [hd] at D
              have hx := s[k + dg].toNat_lt
              clear hd
              go_wp2_with (go_at_call 128; refine (D _).mono ?_; rintro e w1 ⟨rfl, rfl⟩)
              try clear D
            case' neg =>
              go_wp2
            all_goals
              go_loop [7] (fun v => ∃ S : ByteArray, v = .string S ∧ S.size ≤ 9223372036854775807 ∧ Hid (noughts S.data.toList = noughts (digs s.data.toList))) (fun v => match v with | .string S => S.size | _ => 0)
              case atStart => exact ⟨_, rfl, by rw [ByteArray.size_extract]; omega, Lib.hid (by rw [N5.out.2.1])⟩
              case round =>
                obtain ⟨S, rfl, hS, H⟩ := hrel
                have fin : noughts S.data.toList = S.data.toList → Hid (Ending.returned (.tuple #[.string (s.extract 0 k), .string S, .string (s.extract (k + dg) s.size)]) = Ending.returned R) := fun hn => Lib.hid (by
                  rw [← HR.out, strOf (N5.out.1), strOf (N5.out.2.2), strOf (x := S) (l := noughts (digs s.data.toList)) (by rw [← H.out, hn])])
                by_cases h0 : 0 < S.size
                · by_cases e : S[0] = 48
                  · have h1 : ((S[0].toNat : Int) == 48) = true := by rw [e]; rfl
                    have HN : Hid (noughts (S.extract 1 S.size).data.toList = noughts (digs s.data.toList)) := Lib.hid (by rw [← noughts_yes h0 e]; exact H.out)
                    clear e fin
                    go_wp2
                    go_round
                    case rel => exact ⟨_, rfl, by rw [ByteArray.size_extract]; omega, HN⟩
                    case measure => simp only [ByteArray.size_extract]; omega
                  · have h1 : ((S[0].toNat : Int) == 48) = false := by
                      rw [beq_eq_false_iff_ne]; intro g; exact e (UInt8.toNat_inj.1 (by show S[0].toNat = 48; omega))
                    have F := fin (noughts_no h0 e)
                    clear e fin
                    go_wp2
                    go_quiet (fail)
                    go_wp2
                    go_ret3
                    exact ⟨F.out, _, rfl⟩
                · have F := fin (noughts_nil (by omega))
                  clear fin
                  go_wp2
                  go_quiet (fail)
                  go_wp2
                  go_ret3
                  exact ⟨F.out, _, rfl⟩
theorem piece_refB2 (s : ByteArray) (hs : s.size ≤ 9223372036854775807) : ∃ P N X : ByteArray, P.data.toList = nonD s.data.toList ∧ N.data.toList = noughts (digs s.data.toList) ∧ X.data.toList = rest s.data.toList ∧
    P.size ≤ s.size ∧ N.size ≤ s.size ∧ X.size ≤ s.size ∧ (0 < s.size → X.size < s.size) ∧ ∀ w, Calls Tryz.prog 151 #[.string s] w fun e w' => e = .returned (.tuple #[.string P, .string N, .string X]) ∧ ∃ q, w' = w.drewN q := by
  have h1 := nonD_le s.data.toList
  have h2 := digs_le s.data.toList
  have h3 := noughts_le (digs s.data.toList)
  have h4 := rest_le s.data.toList
  have h5 := rest_lt s.data.toList
  have hl := sizeOf s
  refine ⟨⟨(nonD s.data.toList).toArray⟩, ⟨(noughts (digs s.data.toList)).toArray⟩, ⟨(rest s.data.toList).toArray⟩, by simp, by simp, by simp, by rw [sizeOf, bytesOf]; omega, by rw [sizeOf, bytesOf]; omega, by rw [sizeOf, bytesOf]; omega, ?_, fun w => piece_refB s hs w⟩
  intro h0
  have := h5 (fun e => by rw [e, List.length_nil] at hl; omega)
  rw [sizeOf, bytesOf]; omega
set_option maxHeartbeats 4000000 in
theorem order_refB (a b : ByteArray) (ha : a.size ≤ 9223372036854775807) (hb : b.size ≤ 9223372036854775807) (w : World) : Calls Tryz.prog 130 #[.string a, .string b] w fun e w' => e = .returned (.int .i64 (order a.data.toList b.data.toList)) ∧ ∃ q, w' = w.drewN q := by
  obtain ⟨R, HR⟩ : ∃ R, Hid (order a.data.toList b.data.toList = R) := ⟨_, rfl⟩
  rw [HR.out]
  go_enter Tryz.func130, Tryz.ntmps130
  go_wp2
  go_loopw [0, 1] (fun x y wr => ∃ A B : ByteArray, x = .string A ∧ y = .string B ∧ A.size ≤ 9223372036854775807 ∧ B.size ≤ 9223372036854775807 ∧ Hid (order A.data.toList B.data.toList = R) ∧ Hid (∃ q, wr = w.drewN q)) (fun x y _ => (match x with | .string S => S.size | _ => 0) + (match y with | .string S => S.size | _ => 0))
  case atStart => exact ⟨a, b, rfl, rfl, ha, hb, HR, Lib.hid ⟨0, rfl⟩⟩
  case round =>
    obtain ⟨A, B, rfl, rfl, hA, hB, H, HQ⟩ := hrel
    clear HR ha hb
    by_cases he : A.size = 0 ∧ B.size = 0
    · obtain ⟨h1, h2⟩ := he
      have e1 : A.toList.isEmpty = true := by rw [emptyT, decide_eq_true h1]
      have e2 : B.toList.isEmpty = true := by rw [emptyT, decide_eq_true h2]
      have HZ : Hid (R = 0) := Lib.hid (by
        have h := H.out
        rw [sizeOf] at h1 h2
        rw [List.eq_nil_of_length_eq_zero h1, List.eq_nil_of_length_eq_zero h2] at h
        rw [← h]; exact order_end)
      clear h1 h2 H
      go_wp2
      go_ret
      exact ⟨reti HZ.out.symm, HQ.out⟩
    · obtain ⟨P1, N1, X1, p1, n1, x1, sp1, sn1, sx1, lx1, C1⟩ := piece_refB2 A hA
      obtain ⟨P2, N2, X2, p2, n2, x2, sp2, sn2, sx2, lx2, C2⟩ := piece_refB2 B hB
      have hn := order_next A.data.toList B.data.toList
      rw [H.out, ← p1, ← p2, ← n1, ← n2, ← x1, ← x2] at hn
      have hm : X1.size + X2.size < A.size + B.size := by
        by_cases h : 0 < A.size
        · have := lx1 h; omega
        · have := lx2 (by omega); omega
      have HE : Hid ((A.toList.isEmpty = false ∧ B.toList.isEmpty = false) ∨ (A.toList.isEmpty = false ∧ B.toList.isEmpty = true) ∨ (A.toList.isEmpty = true ∧ B.toList.isEmpty = false)) := Lib.hid (by
        rw [emptyT, emptyT]
        by_cases h1 : A.size = 0
        · have h2 : ¬ B.size = 0 := fun h2 => he ⟨h1, h2⟩
          right; right; simp [h1, h2]
        · by_cases h2 : B.size = 0
          · right; left; simp [h1, h2]
          · left; simp [h1, h2])
      have W := fun w => words_refB P1 P2 (by omega) (by omega) w
      have M := fun w => numbers_ref N1 N2 w
      have vw := wcmp_good.vals P1.data.toList P2.data.toList
      have vn := ncmp_good.vals N1.data.toList N2.data.toList
      generalize wcmp P1.data.toList P2.data.toList = c at *
      generalize ncmp N1.data.toList N2.data.toList = d at *
      have HN := Lib.hid hn
      clear hn he p1 p2 n1 n2 x1 x2 lx1 lx2 H
      have hb1 : -1 ≤ c ∧ c ≤ 1 := by omega
      have hb2 : -1 ≤ d ∧ d ≤ 1 := by omega
      clear vw vn
      obtain ⟨hc1, hc2⟩ := hb1
      obtain ⟨hd1, hd2⟩ := hb2
      by_cases hc : c = 0
      · subst hc
        by_cases hd : d = 0
        · subst hd
          have G : Hid (order X1.data.toList X2.data.toList = R) := Lib.hid (by have h := HN.out; simpa using h.symm)
          clear HN
          rcases HE.out with ⟨e1, e2⟩ | ⟨e1, e2⟩ | ⟨e1, e2⟩ <;> clear HE
          all_goals
            go_wp2_with fail
            refine (C1 _).mono ?_
            rintro e w1 ⟨rfl, q1, rfl⟩
            go_wp2_with fail
            refine (C2 _).mono ?_
            rintro e w1 ⟨rfl, q2, rfl⟩
            go_wp2_with (first | (go_at_call 152; refine (W _).mono ?_; rintro e w1 ⟨rfl, rfl⟩) | (go_at_call 153; refine (M _).mono ?_; rintro e w1 ⟨rfl, rfl⟩))
            go_roundw
            case rel => exact ⟨X1, X2, rfl, rfl, by omega, by omega, G, Lib.hid (by obtain ⟨q, hq⟩ := HQ.out; exact ⟨q + (q1 + q2), by rw [hq]; simp [World.drewN_drewN]⟩)⟩
            case measure => simp only []; omega
        · have hd' : (d != 0) = true := by simpa using hd
          have G : Hid (d = R) := Lib.hid (by have h := HN.out; simp [hd] at h; exact h.symm)
          clear HN
          rcases HE.out with ⟨e1, e2⟩ | ⟨e1, e2⟩ | ⟨e1, e2⟩ <;> clear HE
          all_goals
            go_wp2_with fail
            refine (C1 _).mono ?_
            rintro e w1 ⟨rfl, q1, rfl⟩
            go_wp2_with fail
            refine (C2 _).mono ?_
            rintro e w1 ⟨rfl, q2, rfl⟩
            go_wp2_with (first | (go_at_call 152; refine (W _).mono ?_; rintro e w1 ⟨rfl, rfl⟩) | (go_at_call 153; refine (M _).mono ?_; rintro e w1 ⟨rfl, rfl⟩))
            go_ret
            exact ⟨reti G.out, by obtain ⟨q, hq⟩ := HQ.out; exact ⟨q + (q1 + q2), by rw [hq]; simp [World.drewN_drewN]⟩⟩
      · have hc' : (c != 0) = true := by simpa using hc
        have G : Hid (c = R) := Lib.hid (by have h := HN.out; simp [hc] at h; exact h.symm)
        clear HN
        rcases HE.out with ⟨e1, e2⟩ | ⟨e1, e2⟩ | ⟨e1, e2⟩ <;> clear HE
        all_goals
          go_wp2_with fail
          refine (C1 _).mono ?_
          rintro e w1 ⟨rfl, q1, rfl⟩
          go_wp2_with fail
          refine (C2 _).mono ?_
          rintro e w1 ⟨rfl, q2, rfl⟩
          go_wp2_with (first | (go_at_call 152; refine (W _).mono ?_; rintro e w1 ⟨rfl, rfl⟩) | (go_at_call 153; refine (M _).mono ?_; rintro e w1 ⟨rfl, rfl⟩))
          go_ret
          exact ⟨reti G.out, by obtain ⟨q, hq⟩ := HQ.out; exact ⟨q + (q1 + q2), by rw [hq]; simp [World.drewN_drewN]⟩⟩
end Go.Proofs.YtkcamfcjkjiijaaGreatDoor
namespace Go.Proofs.YtkcamfcjkjiijaaGreatDoor
open Go.RowKit
set_option maxRecDepth 100000 in
set_option maxHeartbeats 8000000 in
theorem parse_refB (s : ByteArray) (hs : s.size ≤ 9223372036854775807) (w : World) : Calls Tryz.prog 107 #[.string s] w (ParsePost s.data.toList w) := by
  have hl := sizeOf s
  by_cases h4 : s.size ≤ 4000
  · exact parse_ref s h4 w
  have h80 : 80 < s.size := by omega
  have HP : Hid (∀ e w', e = .returned (.tuple #[.agg #[.int .i64 0, .string ⟨#[]⟩, .string ⟨#[]⟩], .int .i64 8]) → Below w.heap.size w w' → ParsePost s.data.toList w e w') := Lib.hid (fun e w' h g => ⟨by rw [parseV_long (by omega)]; exact h, g⟩)
  clear hl
  go_enter Tryz.func107, Tryz.ntmps107
  go_wp2
  exact bodyPost_ret (v := .tuple #[.agg #[.int .i64 0, .string ⟨#[]⟩, .string ⟨#[]⟩], .int .i64 8]) (by simp [results, Tryz.results107, go_sem]) rfl (HP.out _ _ rfl ((((Below.refl _ _).alloc (Nat.le_refl _) _).alloc (by simp) _).alloc (by simp; omega) _))

theorem parse_partsB (s : ByteArray) (hs : s.size  ≤ 9223372036854775807) : ∃ (z : Int) (U V : ByteArray) (k : Int), (k = 0 ∨ k = 2 ∨ k = 8) ∧ 0 ≤ z ∧ z < 1000000000 ∧ U.size ≤ 100 ∧ V.size ≤ 100 ∧
    (k = 0 → VerAt s z U V ∧ parseE s.data.toList = ((z, U.data.toList, V.data.toList), 0)) ∧ (k ≠ 0 → VerAt s 0 s ⟨#[48]⟩ ∧ parseE s.data.toList = ((0, [], []), k) ∧ z = 0 ∧ U = ⟨#[]⟩ ∧ V = ⟨#[]⟩) ∧
    parseV s.data.toList = .tuple #[.agg #[.int .i64 z, .string U, .string V], .int .i64 k] := by
  have hl := sizeOf s
  by_cases h : 80 < s.data.toList.length
  · have he : parseE s.data.toList = ((0, [], []), 8) := by unfold parseE; rw [if_pos h]
    refine ⟨0, ⟨#[]⟩, ⟨#[]⟩, 8, .inr (.inr rfl), by omega, by omega, by decide, by decide, fun g => absurd g (by decide), fun _ => ⟨?_, he, rfl, rfl, rfl⟩, parseV_long h⟩
    unfold VerAt verAs; rw [he]; rfl
  · cases hv : verOf s.data.toList with
    | none =>
      have he : parseE s.data.toList = ((0, [], []), 2) := by unfold parseE; rw [if_neg h, hv]
      refine ⟨0, ⟨#[]⟩, ⟨#[]⟩, 2, .inr (.inl rfl), by omega, by omega, by decide, by decide, fun g => absurd g (by decide), fun _ => ⟨?_, he, rfl, rfl, rfl⟩, parseV_none h hv⟩
      unfold VerAt verAs; rw [he]; rfl
    | some v =>
      have he : parseE s.data.toList = (v, 0) := by unfold parseE; rw [if_neg h, hv]
      have hok := verOf_ok hv
      have hle := verOf_le hv
      refine ⟨v.1, ⟨v.2.1.toArray⟩, ⟨v.2.2.toArray⟩, 0, .inl rfl, hok.lo, hok.hi, by rw [sizeOf, bytesOf]; omega, by rw [sizeOf, bytesOf]; omega, fun _ => ⟨?_, ?_⟩, fun g => absurd rfl g, parseV_some h hv⟩
      · unfold VerAt verAs; rw [he]; simp
      · rw [he]
set_option maxRecDepth 100000 in
set_option maxHeartbeats 4000000 in
theorem compare_refB (a b : ByteArray) (ha : a.size  ≤ 9223372036854775807) (hb : b.size  ≤ 9223372036854775807) (w : World) :
    Calls Tryz.prog 108 #[.string a, .string b] w fun e w' => e = .returned (.int .i64 (compareV a.data.toList b.data.toList)) ∧ Below w.heap.size w w' := by
  obtain ⟨R, HR⟩ : ∃ R, Hid (compareV a.data.toList b.data.toList = R) := ⟨_, rfl⟩
  rw [HR.out]
  have P1 := fun w => parse_refB a ha w
  have P2 := fun w => parse_refB b hb w
  unfold ParsePost at P1 P2
  obtain ⟨z1, U1, V1, k1, hk1, hz1, hz1', hU1, hV1, ok1, bad1, e1⟩ := parse_partsB a ha
  obtain ⟨z2, U2, V2, k2, hk2, hz2, hz2', hU2, hV2, ok2, bad2, e2⟩ := parse_partsB b hb
  simp only [e1] at P1
  simp only [e2] at P2
  have OK1 := Lib.hid (And.intro ok1 bad1)
  have OK2 := Lib.hid (And.intro ok2 bad2)
  clear ok1 bad1 ok2 bad2 e1 e2
  go_enter Tryz.func108, Tryz.ntmps108
  go_upto_if 16 with (first | (go_at_call 107; refine (P1 _).mono ?_; rintro e w1 ⟨rfl, hb1⟩; have HB1 := Lib.hid hb1; clear hb1))
  go_cut [] (fun wx => ∃ (z : Int) (U V : ByteArray), 0 ≤ z ∧ z < 1000000000 ∧ U.size ≤ 9223372036854775807 ∧ V.size ≤ 9223372036854775807 ∧ Hid (VerAt a z U V) ∧ wx = w1.alloc (.cells #[.int .i64 z, .string U, .string V] 147))
  case first =>
    clear P1 P2 OK2
    rcases hk1 with rfl | rfl | rfl
    · have HA := Lib.hid (OK1.out.1 rfl).1
      clear OK1
      go_wp2
      go_meet
      case rel => exact ⟨z1, U1, V1, hz1, hz1', by omega, by omega, HA, rfl⟩
    · have HA := Lib.hid (OK1.out.2 (by decide)).1
      clear OK1
      go_wp2
      go_meet
      case rel => exact ⟨0, a, ⟨#[48]⟩, by omega, by omega, by omega, by decide, HA, rfl⟩
    · have HA := Lib.hid (OK1.out.2 (by decide)).1
      clear OK1
      go_wp2
      go_meet
      case rel => exact ⟨0, a, ⟨#[48]⟩, by omega, by omega, by omega, by decide, HA, rfl⟩
  case rest =>
    clear P1 OK1 hk1 hz1 hz1' hU1 hV1
    obtain ⟨x1, A1, B1, hx1, hx1', hA1, hB1, HA, rfl⟩ := hcut
    go_upto_if 25 with (first | (go_at_call 107; refine (P2 _).mono ?_; rintro e w2 ⟨rfl, hb2⟩; have HB2 := Lib.hid hb2; clear hb2))
    have hsz := HB2.out.size
    simp only [World.size_alloc] at hsz
    have hb2 := (bcells HB2.out).1
    have c0 : w2.cell? ⟨w1.heap.size, 0, none⟩ = some (.int .i64 x1) := by rw [hb2 _ _ (by simp)]; simp [World.cell?_alloc_new]
    have c1 : w2.cell? ⟨w1.heap.size, 1, none⟩ = some (.string A1) := by rw [hb2 _ _ (by simp)]; simp [World.cell?_alloc_new]
    have c2 : w2.cell? ⟨w1.heap.size, 2, none⟩ = some (.string B1) := by rw [hb2 _ _ (by simp)]; simp [World.cell?_alloc_new]
    clear hb2
    go_cut [] (fun wx => ∃ (z : Int) (U V : ByteArray), 0 ≤ z ∧ z < 1000000000 ∧ U.size ≤ 9223372036854775807 ∧ V.size ≤ 9223372036854775807 ∧ Hid (VerAt b z U V) ∧ wx = w2.alloc (.cells #[.int .i64 z, .string U, .string V] 147))
    case first =>
      clear P2
      rcases hk2 with rfl | rfl | rfl
      · have HC := Lib.hid (OK2.out.1 rfl).1
        clear OK2
        go_wp2
        go_meet
        case rel => exact ⟨z2, U2, V2, hz2, hz2', by omega, by omega, HC, rfl⟩
      · have HC := Lib.hid (OK2.out.2 (by decide)).1
        clear OK2
        go_wp2
        go_meet
        case rel => exact ⟨0, b, ⟨#[48]⟩, by omega, by omega, by omega, by decide, HC, rfl⟩
      · have HC := Lib.hid (OK2.out.2 (by decide)).1
        clear OK2
        go_wp2
        go_meet
        case rel => exact ⟨0, b, ⟨#[48]⟩, by omega, by omega, by omega, by decide, HC, rfl⟩
    case rest =>
      clear P2 OK2 hk2 hz2 hz2' hU2 hV2
      obtain ⟨x2, A2, B2, hx2, hx2', hA2, hB2, HC, rfl⟩ := hcut
      have hcp := compare_parts HA.out HC.out
      have hbx := (bcells ((Below.refl w2.heap.size w2).alloc (Nat.le_refl _) (.cells #[.int .i64 x2, .string A2, .string B2] 147))).1
      have d0 := (hbx w1.heap.size 0 (by omega)).trans c0
      have d1 := (hbx w1.heap.size 1 (by omega)).trans c1
      have d2 := (hbx w1.heap.size 2 (by omega)).trans c2
      clear hbx c0 c1 c2
      rw [HR.out] at hcp
      have HBB : Hid (Below w.heap.size w (w2.alloc (.cells #[.int .i64 x2, .string A2, .string B2] 147))) := Lib.hid ((HB1.out.trans ((((Below.refl _ _).alloc (Nat.le_refl _) _).trans (HB2.out.mono (by simp))).mono HB1.out.size)).alloc (Nat.le_trans HB1.out.size (by omega)) _)
      have O1 := fun w => order_refB A1 A2 (by omega) (by omega) w
      have O2 := fun w => order_refB B1 B2 (by omega) (by omega) w
      have v1 := order_good.vals A1.data.toList A2.data.toList
      have v2 := order_good.vals B1.data.toList B2.data.toList
      generalize order A1.data.toList A2.data.toList = c at *
      generalize order B1.data.toList B2.data.toList = d at *
      have hc : -1 ≤ c ∧ c ≤ 1 := by omega
      have hd : -1 ≤ d ∧ d ≤ 1 := by omega
      obtain ⟨hc1, hc2⟩ := hc
      obtain ⟨hd1, hd2⟩ := hd
      have F : Hid ((x1 < x2 ∧ R = -1) ∨ (x2 < x1 ∧ R = 1) ∨ (x1 = x2 ∧ ((¬ c = 0 ∧ R = c) ∨ (c = 0 ∧ R = d)))) := Lib.hid (by
        rcases sgn_cases x1 x2 with ⟨h, g⟩ | ⟨h, g⟩ | ⟨h, g⟩
        · left; rw [g, if_pos (by omega)] at hcp; exact ⟨h, hcp⟩
        · right; left; rw [g, if_pos (by omega)] at hcp; exact ⟨h, hcp⟩
        · right; right
          rw [g, if_neg (by omega)] at hcp
          by_cases e : c = 0
          · rw [if_neg (by omega)] at hcp; exact ⟨h, .inr ⟨e, hcp⟩⟩
          · rw [if_pos e] at hcp; exact ⟨h, .inl ⟨e, hcp⟩⟩)
      clear hcp HA HC HB1 HB2 v1 v2 HR
      rcases F.out with ⟨h, g⟩ | ⟨h, g⟩ | ⟨h, ⟨e, g⟩ | ⟨e, g⟩⟩
      · have G := Lib.hid g
        clear g F O1 O2
        go_wp2
        go_ret
        exact ⟨reti G.out.symm, HBB.out⟩
      · have G := Lib.hid g
        clear g F O1 O2
        go_wp2
        go_ret
        exact ⟨reti G.out.symm, HBB.out⟩
      · have G := Lib.hid g
        have e' : (c != 0) = true := by simpa using e
        subst h
        clear g F O2
        go_wp2_with (first | (go_at_call 130; refine (O1 _).mono ?_; rintro e w1 ⟨rfl, q1, rfl⟩))
        go_ret
        exact ⟨reti G.out.symm, belowQ HBB.out _⟩
      · have G := Lib.hid g
        subst h
        subst e
        clear g F
        go_wp2_with (first | (go_at_call 130; refine (O1 _).mono ?_; clear O1; rintro e w1 ⟨rfl, q1, rfl⟩) | (go_at_call 130; refine (O2 _).mono ?_; rintro e w1 ⟨rfl, q2, rfl⟩))
        go_ret
        exact ⟨reti G.out.symm, by first | exact belowQ (belowQ HBB.out _) _ | exact belowQ HBB.out _⟩
set_option maxRecDepth 100000 in
set_option maxHeartbeats 8000000 in
theorem holds_refB (a op b : ByteArray) (ha : a.size  ≤ 9223372036854775807) (hb : b.size  ≤ 9223372036854775807) (w : World) :
    Calls Tryz.prog 95 #[.string a, .string op, .string b] w fun e w' => e = .returned (.bool (holdsV a.data.toList op.data.toList b.data.toList)) ∧ Below w.heap.size w w' := by
  have C := fun w => compare_refB a b ha hb w
  rw [holdsV_is]
  have vc := compareV_good.vals a.data.toList b.data.toList
  generalize compareV a.data.toList b.data.toList = c at *
  obtain ⟨R, HR⟩ : ∃ R, Hid (holdsB c op.data.toList = R) := ⟨_, rfl⟩
  rw [HR.out]
  have s0 := emptyL op
  have s1 := eqTL op [60, 60]
  have s2 := eqTL op [60, 61]
  have s3 := eqTL op [61]
  have s4 := eqTL op [62, 61]
  have s5 := eqTL op [62, 62]
  have ways : op.data.toList = [] ∨ op.data.toList = [60, 60] ∨ op.data.toList = [60, 61] ∨ op.data.toList = [61] ∨ op.data.toList = [62, 61] ∨ op.data.toList = [62, 62] ∨ (op.data.toList ≠ [] ∧ op.data.toList ≠ [60, 60] ∧ op.data.toList ≠ [60, 61] ∧ op.data.toList ≠ [61] ∧ op.data.toList ≠ [62, 61] ∧ op.data.toList ≠ [62, 62]) := by
    by_cases h0 : op.data.toList = []
    · exact .inl h0
    · by_cases h1 : op.data.toList = [60, 60]
      · exact .inr (.inl h1)
      · by_cases h2 : op.data.toList = [60, 61]
        · exact .inr (.inr (.inl h2))
        · by_cases h3 : op.data.toList = [61]
          · exact .inr (.inr (.inr (.inl h3)))
          · by_cases h4 : op.data.toList = [62, 61]
            · exact .inr (.inr (.inr (.inr (.inl h4))))
            · by_cases h5 : op.data.toList = [62, 62]
              · exact .inr (.inr (.inr (.inr (.inr (.inl h5)))))
              · exact .inr (.inr (.inr (.inr (.inr (.inr ⟨h0, h1, h2, h3, h4, h5⟩)))))
  rcases ways with h | h | h | h | h | h | ⟨h, h1, h2, h3, h4, h5⟩
  case' inr.inr.inr.inr.inr.inr =>
    rw [decide_eq_false h] at s0
    rw [decide_eq_false h1] at s1
    rw [decide_eq_false h2] at s2
    rw [decide_eq_false h3] at s3
    rw [decide_eq_false h4] at s4
    rw [decide_eq_false h5] at s5
    have HF : Hid (false = R) := Lib.hid (by rw [← HR.out]; unfold holdsB; simp [h, h1, h2, h3, h4, h5])
    clear h h1 h2 h3 h4 h5 HR vc
    go_enter Tryz.func95, Tryz.ntmps95
    go_wp2_with (first | (go_at_call 108; refine (C _).mono ?_; rintro e w1 ⟨rfl, hb1⟩))
    go_ret
    exact ⟨retb HF.out, hb1⟩
  all_goals
    obtain rfl := strOf h
    clear h s0 s1 s2 s3 s4 s5
    rcases vc with vc | vc | vc
    all_goals
      subst vc
      go_enter Tryz.func95, Tryz.ntmps95
      go_wp2_with (first | (go_at_call 108; refine (C _).mono ?_; rintro e w1 ⟨rfl, hb1⟩))
      go_ret
      exact ⟨retb (by rw [← HR.out]; decide), hb1⟩
end Go.Proofs.YtkcamfcjkjiijaaGreatDoor
namespace Go.Proofs.YtkcamfcjkjiijaaGreatDoor
open Go.RowKit Go.Shelf
def HoldN (w : World) (v : Value) (l : List Nat) : Prop := ∃ (a : Option Addr) (c b o : Nat), v = .slice a l.length c ∧ (0 < l.length → a = some ⟨b, o, none⟩ ∧ b < w.heap.size) ∧ ∀ (j k : Nat), l[j]? = some k → w.cell? ⟨b, o + j, none⟩ = some (.int .i64 (k : Int))
theorem OwnIn.holdN {w : World} {B : Nat} {v : Value} {l : List Nat} (h : OwnIn w B v l) : HoldN w v l := by
  obtain ⟨a, c, b, o, e, -, ha, hcell⟩ := OwnV.holds h
  rw [List.length_map] at e ha
  refine ⟨a, c, b, o, e, ha, fun j k hk => ?_⟩
  have := hcell j [Value.int .i64 (k : Int)] (by rw [List.getElem?_map, hk]; rfl)
  have := this 0 _ (by omega) rfl
  simpa using this
theorem HoldN.on {w w' : World} {v : Value} {l : List Nat} (h : HoldN w v l) (hb : Below w.heap.size w w') : HoldN w' v l := by
  obtain ⟨a, c, b, o, e, ha, hcell⟩ := h
  refine ⟨a, c, b, o, e, fun g => ⟨(ha g).1, Nat.lt_of_lt_of_le (ha g).2 hb.size⟩, fun j k hk => ?_⟩
  have hl := (List.getElem?_eq_some_iff.1 hk).1
  exact (hb.cell (p := ⟨b, o + j, none⟩) (ha (by omega)).2).trans (hcell j k hk)
set_option maxRecDepth 100000 in
set_option maxHeartbeats 4000000 in
theorem ints_any (u v : Value) (l : List Nat) (hl : l.length ≤ 90000) (w : World) (h1 : HoldN w u l) (h2 : HoldN w v l) :
    Calls Tryz.prog 13 #[u, v] w fun e w' => e = .returned (.bool true) ∧ Below w.heap.size w w' := by
  obtain ⟨a, c, b, o, rfl, ha, hcell⟩ := h1
  obtain ⟨a2, c2, b2, o2, rfl, ha2, hcell2⟩ := h2
  have HC := Lib.hid hcell
  have HC2 := Lib.hid hcell2
  obtain ⟨n, hN⟩ : ∃ n, l.length = n := ⟨_, rfl⟩
  rw [hN] at ha ha2 hl ⊢
  have HN := Lib.hid hN
  clear hcell hcell2 hN
  go_enter Tryz.func13, Tryz.ntmps13
  go_wp2
  go_loopw [5] (fun i wr => ∃ (k : Nat), k ≤ n ∧ i = .int .i64 k ∧ Hid (Below w.heap.size w wr)) (fun i _ => n - (intOf i).toNat)
  case atStart => exact ⟨0, by omega, rfl, Lib.hid (Below.refl _ _)⟩
  case round =>
    obtain ⟨k, hk, rfl, HB⟩ := hrel
    have hsz := HB.out.size
    by_cases hlt : k < n
    · obtain ⟨rfl, hbw⟩ := ha (by omega)
      obtain ⟨rfl, hbw2⟩ := ha2 (by omega)
      obtain ⟨q, hq⟩ : ∃ q, l[k]? = some q := ⟨_, List.getElem?_eq_getElem (by rw [HN.out]; exact hlt)⟩
      have c0 := (HB.out.cell (p := ⟨b, o + k, none⟩) hbw).trans (HC.out k q hq)
      have c1 := (HB.out.cell (p := ⟨b2, o2 + k, none⟩) hbw2).trans (HC2.out k q hq)
      have i0' : (0 : Int) ≤ (k : Int) := by omega
      have i1' : (k : Int) < (n : Int) := by omega
      have hqq : ((q : Int) != (q : Int)) = false := by simp
      have hs := And.intro c0 (And.intro c1 (Below.refl wr.heap.size wr))
      clear hq
      go_wp2
      have BE := fun (V : World) (h : V.cell? ⟨b, o + k, none⟩ = some (.int .i64 (q : Int)) ∧ V.cell? ⟨b2, o2 + k, none⟩ = some (.int .i64 (q : Int)) ∧ Below wr.heap.size wr V) => AtF.be (w := wr) (l := [(⟨b, o + k, none⟩, .int .i64 (q : Int)), (⟨b2, o2 + k, none⟩, .int .i64 (q : Int))]) h
      refine wp_region_held_drew (S := (fun V => V.cell? ⟨b, o + k, none⟩ = some (.int .i64 (q : Int)) ∧ V.cell? ⟨b2, o2 + k, none⟩ = some (.int .i64 (q : Int)) ∧ Below wr.heap.size wr V)) (by kernel_rfl) ?_ (fun hHeld => ?_)
      · (try dsimp only); (first | assumption | exact hs | exact AtF.dr (w := wr) (l := [(⟨b, o + k, none⟩, .int .i64 (q : Int)), (⟨b2, o2 + k, none⟩, .int .i64 (q : Int))]) hs | exact AtF.dr (w := wr) (l := [(⟨b, o + k, none⟩, .int .i64 (q : Int)), (⟨b2, o2 + k, none⟩, .int .i64 (q : Int))]) (by assumption) | exact AtF.on (w := wr) (l := [(⟨b, o + k, none⟩, .int .i64 (q : Int)), (⟨b2, o2 + k, none⟩, .int .i64 (q : Int))]) (by assumption) (by assumption) | exact AtF.al (w := wr) (l := [(⟨b, o + k, none⟩, .int .i64 (q : Int)), (⟨b2, o2 + k, none⟩, .int .i64 (q : Int))]) (by assumption) _ | exact AtF.ald (w := wr) (l := [(⟨b, o + k, none⟩, .int .i64 (q : Int)), (⟨b2, o2 + k, none⟩, .int .i64 (q : Int))]) (by assumption) _ | exact AtF.al (w := wr) (l := [(⟨b, o + k, none⟩, .int .i64 (q : Int)), (⟨b2, o2 + k, none⟩, .int .i64 (q : Int))]) hs _ | exact AtF.ald (w := wr) (l := [(⟨b, o + k, none⟩, .int .i64 (q : Int)), (⟨b2, o2 + k, none⟩, .int .i64 (q : Int))]) hs _)
      refine heldY 0 17 ?_ _ rfl rfl (by kernel_rfl) (by kernel_rfl) (by kernel_rfl) (fun _ _ _ h => h) rfl (by assumption) ?_ ?_
      rotate_left
      · (intro w hSw; (try dsimp only at hSw); go_simp; (try with_reducible rfl))
      try simp only [List.setIfInBounds_toArray, List.set_cons_zero, List.set_cons_succ]
      refine heldY 1 18 ?_ _ rfl rfl (by kernel_rfl) (by kernel_rfl) (by kernel_rfl) (fun _ _ _ h => h) rfl (by assumption) ?_ ?_
      rotate_left
      · (intro w hSw; (try dsimp only at hSw); go_simp; (try with_reducible rfl))
      try simp only [List.setIfInBounds_toArray, List.set_cons_zero, List.set_cons_succ]
      refine heldY 2 19 ?_ _ rfl rfl (by kernel_rfl) (by kernel_rfl) (by kernel_rfl) (fun _ _ _ h => h) rfl (by assumption) ?_ ?_
      rotate_left
      · (intro w hSw; (try dsimp only at hSw); go_simp; (try with_reducible rfl))
      try simp only [List.setIfInBounds_toArray, List.set_cons_zero, List.set_cons_succ]
      refine heldY 3 20 ?_ _ rfl rfl (by kernel_rfl) (by kernel_rfl) (by kernel_rfl) (fun _ _ _ h => h) rfl (by assumption) ?_ ?_
      rotate_left
      · (intro w hSw; (try dsimp only at hSw); go_simp; (try with_reducible rfl))
      try simp only [List.setIfInBounds_toArray, List.set_cons_zero, List.set_cons_succ]
      refine heldY 4 21 ?_ _ rfl rfl (by kernel_rfl) (by kernel_rfl) (by kernel_rfl) (fun _ _ _ h => h) rfl (by assumption) ?_ ?_
      rotate_left
      · (intro w hSw; (try dsimp only at hSw); go_simp; (try with_reducible rfl))
      try simp only [List.setIfInBounds_toArray, List.set_cons_zero, List.set_cons_succ]
      refine heldY 5 22 ?_ _ rfl rfl (by kernel_rfl) (by kernel_rfl) (by kernel_rfl) (fun _ _ _ h => h) rfl (by assumption) ?_ ?_
      rotate_left
      · (intro w hSw; (try dsimp only at hSw); go_simp; (try with_reducible rfl))
      try simp only [List.setIfInBounds_toArray, List.set_cons_zero, List.set_cons_succ]
      refine heldY 6 23 ?_ _ rfl rfl (by kernel_rfl) (by kernel_rfl) (by kernel_rfl) (fun _ _ _ h => h) rfl (by assumption) ?_ ?_
      rotate_left
      · (intro w hSw; (try dsimp only at hSw); go_simp; (try with_reducible rfl))
      try simp only [List.setIfInBounds_toArray, List.set_cons_zero, List.set_cons_succ]
      refine heldY 7 24 ?_ _ rfl rfl (by kernel_rfl) (by kernel_rfl) (by kernel_rfl) (fun _ _ _ h => h) rfl (by assumption) ?_ ?_
      rotate_left
      · (intro w hSw; (try dsimp only at hSw); go_simp; (try with_reducible rfl))
      try simp only [List.setIfInBounds_toArray, List.set_cons_zero, List.set_cons_succ]
      refine heldY 8 25 ?_ _ rfl rfl (by kernel_rfl) (by kernel_rfl) (by kernel_rfl) (fun _ _ _ h => h) rfl (by assumption) ?_ ?_
      rotate_left
      · (intro w hSw; (try dsimp only at hSw); go_simp; (try with_reducible rfl))
      try simp only [List.setIfInBounds_toArray, List.set_cons_zero, List.set_cons_succ]
      refine wpAnyH_done (by kernel_rfl) ?_ _
      have HBB := Lib.hid (HB.out.trans ((BE _ hHeld).mono HB.out.size))
      clear hHeld hs c0 c1
      go_wp2
      go_roundw
      case rel => exact ⟨k + 1, by omega, by go_num, HBB⟩
      case measure => simp [intOf]; omega
    · have hkn : k = n := by omega
      subst hkn
      clear hlt
      go_wp2
      first | (go_ret; exact ⟨rfl, HB.out⟩) | exact ⟨rfl, HB.out⟩
end Go.Proofs.YtkcamfcjkjiijaaGreatDoor
