/-
  The reference's Compare and Holds: what they return; nothing old turns.
-/
import Derived.Test.YtkcamfcjkjiijaaGreatDoorPQGroup2
import Derived.Lib.ItoaMem
import Derived.Laws.BitsAllLaws
import Derived.Lib.ItoaWalk
import Derived.ShutString
import Derived.Test.YtkcamfcjkjiijaaGreatDoorPVParse
import Derived.Deep.DeepCutAuto
import Derived.Deep.CutRange
namespace Go.Proofs.YtkcamfcjkjiijaaGreatDoor.RT
open Go.RowKit Go.Sort
def dgc (d : Nat) : UInt8 := if d < 10 then UInt8.ofNat (48 + d) else UInt8.ofNat (87 + d)
end Go.Proofs.YtkcamfcjkjiijaaGreatDoor.RT
namespace Go.Proofs.YtkcamfcjkjiijaaGreatDoor
open Go.RowKit
end Go.Proofs.YtkcamfcjkjiijaaGreatDoor
namespace Go.Proofs.YtkcamfcjkjiijaaGreatDoor
open Go.RowKit
theorem cutHy_le (l : Bs) : (cutHy l).1.length ≤ l.length ∧ (cutHy l).2.length ≤ l.length + 1 := by
  unfold cutHy
  split
  · simp
  · simp only [List.length_take, List.length_drop]; omega
theorem restV_le {e : Int} {m l : Bs} {v : Ver} (h : restV e m l = some v) : v.2.1.length ≤ l.length ∧ v.2.2.length ≤ l.length + 1 := by
  obtain ⟨rfl, _⟩ := restV_some h
  exact cutHy_le l
theorem verOf_le {s : Bs} {v : Ver} (h : verOf s = some v) : v.2.1.length ≤ s.length ∧ v.2.2.length ≤ s.length + 1 := by
  unfold verOf at h
  split at h
  · split at h
    · have := restV_le h
      rw [List.length_drop] at this; omega
    · cases h
  · exact restV_le h
/-- What Parse tells, by what it is in memory; and what a comparison takes a text for. -/
def VerAt (s : ByteArray) (z : Int) (U V : ByteArray) : Prop := verAs s.data.toList = (z, U.data.toList, V.data.toList)
theorem parse_parts (s : ByteArray) (hs : s.size ≤ 4000) : ∃ (z : Int) (U V : ByteArray) (k : Int), (k = 0 ∨ k = 2 ∨ k = 8) ∧ 0 ≤ z ∧ z < 1000000000 ∧ U.size ≤ 100 ∧ V.size ≤ 100 ∧
    (k = 0 → VerAt s z U V ∧ parseE s.data.toList = ((z, U.data.toList, V.data.toList), 0)) ∧ (k ≠ 0 → VerAt s 0 s ⟨#[48]⟩ ∧ parseE s.data.toList = ((0, [], []), k) ∧ z = 0 ∧ U = ⟨#[]⟩ ∧ V = ⟨#[]⟩) ∧
    parseV s.data.toList = .tuple #[.agg #[.int .i64 z, .string U, .string V], .int .i64 k] := by
  have hl := sizeOf s
  by_cases h : 80 < s.data.toList.length
  · have he : parseE s.data.toList = ((0, [], []), 8) := by unfold parseE; rw [if_pos h]
    refine ⟨0, ⟨#[]⟩, ⟨#[]⟩, 8, .inr (.inr rfl), by omega, by omega, by decide, by decide, fun g => absurd g (by decide), fun _ => ⟨?_, he, rfl, rfl, rfl⟩, parseV_long h⟩
    unfold VerAt verAs; rw [he]; rfl
  · cases hv : verOf s.data.toList with
    | none =>
      have he : parseE s.data.toList = ((0, [], []), 2) := by unfold parseE; rw [if_neg h, hv]
      refine ⟨0, ⟨#[]⟩, ⟨#[]⟩, 2, .inr (.inl rfl), by omega, by omega, by decide, by decide, fun g => absurd g (by decide), fun _ => ⟨?_, he, rfl, rfl, rfl⟩, parseV_none h hv⟩
      unfold VerAt verAs; rw [he]; rfl
    | some v =>
      have he : parseE s.data.toList = (v, 0) := by unfold parseE; rw [if_neg h, hv]
      have hok := verOf_ok hv
      have hle := verOf_le hv
      refine ⟨v.1, ⟨v.2.1.toArray⟩, ⟨v.2.2.toArray⟩, 0, .inl rfl, hok.lo, hok.hi, by rw [sizeOf, bytesOf]; omega, by rw [sizeOf, bytesOf]; omega, fun _ => ⟨?_, ?_⟩, fun g => absurd rfl g, parseV_some h hv⟩
      · unfold VerAt verAs; rw [he]; simp
      · rw [he]
theorem compare_parts {a b : ByteArray} {z1 z2 : Int} {U1 U2 V1 V2 : ByteArray} (h1 : VerAt a z1 U1 V1) (h2 : VerAt b z2 U2 V2) :
    compareV a.data.toList b.data.toList = if sgn z1 z2 ≠ 0 then sgn z1 z2 else if order U1.data.toList U2.data.toList ≠ 0 then order U1.data.toList U2.data.toList else order V1.data.toList V2.data.toList := by
  unfold compareV
  rw [h1, h2]
  rfl
theorem bcells {W w1 : World} (hb : Below W.heap.size W w1) : (∀ b o, b < W.heap.size → w1.cell? ⟨b, o, none⟩ = W.cell? ⟨b, o, none⟩) ∧ (∀ b o, b < W.heap.size → w1.frozen? ⟨b, o, none⟩ = W.frozen? ⟨b, o, none⟩) :=
  ⟨fun b o h => hb.cell (p := ⟨b, o, none⟩) h, fun b o h => hb.frozen (p := ⟨b, o, none⟩) h⟩
set_option maxRecDepth 100000 in
set_option maxHeartbeats 4000000 in
theorem compare_ref (a b : ByteArray) (ha : a.size ≤ 4000) (hb : b.size ≤ 4000) (w : World) :
    Calls Tryz.prog 108 #[.string a, .string b] w fun e w' => e = .returned (.int .i64 (compareV a.data.toList b.data.toList)) ∧ Below w.heap.size w w' := by
  obtain ⟨R, HR⟩ : ∃ R, Hid (compareV a.data.toList b.data.toList = R) := ⟨_, rfl⟩
  rw [HR.out]
  have P1 := fun w => parse_ref a ha w
  have P2 := fun w => parse_ref b hb w
  unfold ParsePost at P1 P2
  obtain ⟨z1, U1, V1, k1, hk1, hz1, hz1', hU1, hV1, ok1, bad1, e1⟩ := parse_parts a ha
  obtain ⟨z2, U2, V2, k2, hk2, hz2, hz2', hU2, hV2, ok2, bad2, e2⟩ := parse_parts b hb
  simp only [e1] at P1
  simp only [e2] at P2
  have OK1 := Lib.hid (And.intro ok1 bad1)
  have OK2 := Lib.hid (And.intro ok2 bad2)
  clear ok1 bad1 ok2 bad2 e1 e2
  go_enter Tryz.func108, Tryz.ntmps108
  go_upto_if 16 with (first | (go_at_call 107; refine (P1 _).mono ?_; rintro e w1 ⟨rfl, hb1⟩; have HB1 := Lib.hid hb1; clear hb1))
  go_cut [] (fun wx => ∃ (z : Int) (U V : ByteArray), 0 ≤ z ∧ z < 1000000000 ∧ U.size ≤ 4001 ∧ V.size ≤ 4001 ∧ Hid (VerAt a z U V) ∧ wx = w1.alloc (.cells #[.int .i64 z, .string U, .string V] 147))
  case first =>
    clear P1 P2 OK2
    rcases hk1 with rfl | rfl | rfl
    · have HA := Lib.hid (OK1.out.1 rfl).1
      clear OK1
      go_wp2
      go_meet
      case rel => exact ⟨z1, U1, V1, hz1, hz1', by omega, by omega, HA, rfl⟩
    · have HA := Lib.hid (OK1.out.2 (by decide)).1
      clear OK1
      go_wp2
      go_meet
      case rel => exact ⟨0, a, ⟨#[48]⟩, by omega, by omega, by omega, by decide, HA, rfl⟩
    · have HA := Lib.hid (OK1.out.2 (by decide)).1
      clear OK1
      go_wp2
      go_meet
      case rel => exact ⟨0, a, ⟨#[48]⟩, by omega, by omega, by omega, by decide, HA, rfl⟩
  case rest =>
    clear P1 OK1 hk1 hz1 hz1' hU1 hV1
    obtain ⟨x1, A1, B1, hx1, hx1', hA1, hB1, HA, rfl⟩ := hcut
    go_upto_if 25 with (first | (go_at_call 107; refine (P2 _).mono ?_; rintro e w2 ⟨rfl, hb2⟩; have HB2 := Lib.hid hb2; clear hb2))
    have hsz := HB2.out.size
    simp only [World.size_alloc] at hsz
    have hb2 := (bcells HB2.out).1
    have c0 : w2.cell? ⟨w1.heap.size, 0, none⟩ = some (.int .i64 x1) := by rw [hb2 _ _ (by simp)]; simp [World.cell?_alloc_new]
    have c1 : w2.cell? ⟨w1.heap.size, 1, none⟩ = some (.string A1) := by rw [hb2 _ _ (by simp)]; simp [World.cell?_alloc_new]
    have c2 : w2.cell? ⟨w1.heap.size, 2, none⟩ = some (.string B1) := by rw [hb2 _ _ (by simp)]; simp [World.cell?_alloc_new]
    clear hb2
    go_cut [] (fun wx => ∃ (z : Int) (U V : ByteArray), 0 ≤ z ∧ z < 1000000000 ∧ U.size ≤ 4001 ∧ V.size ≤ 4001 ∧ Hid (VerAt b z U V) ∧ wx = w2.alloc (.cells #[.int .i64 z, .string U, .string V] 147))
    case first =>
      clear P2
      rcases hk2 with rfl | rfl | rfl
      · have HC := Lib.hid (OK2.out.1 rfl).1
        clear OK2
        go_wp2
        go_meet
        case rel => exact ⟨z2, U2, V2, hz2, hz2', by omega, by omega, HC, rfl⟩
      · have HC := Lib.hid (OK2.out.2 (by decide)).1
        clear OK2
        go_wp2
        go_meet
        case rel => exact ⟨0, b, ⟨#[48]⟩, by omega, by omega, by omega, by decide, HC, rfl⟩
      · have HC := Lib.hid (OK2.out.2 (by decide)).1
        clear OK2
        go_wp2
        go_meet
        case rel => exact ⟨0, b, ⟨#[48]⟩, by omega, by omega, by omega, by decide, HC, rfl⟩
    case rest =>
      clear P2 OK2 hk2 hz2 hz2' hU2 hV2
      obtain ⟨x2, A2, B2, hx2, hx2', hA2, hB2, HC, rfl⟩ := hcut
      have hcp := compare_parts HA.out HC.out
      have hbx := (bcells ((Below.refl w2.heap.size w2).alloc (Nat.le_refl _) (.cells #[.int .i64 x2, .string A2, .string B2] 147))).1
      have d0 := (hbx w1.heap.size 0 (by omega)).trans c0
      have d1 := (hbx w1.heap.size 1 (by omega)).trans c1
      have d2 := (hbx w1.heap.size 2 (by omega)).trans c2
      clear hbx c0 c1 c2
      rw [HR.out] at hcp
      have HBB : Hid (Below w.heap.size w (w2.alloc (.cells #[.int .i64 x2, .string A2, .string B2] 147))) := Lib.hid ((HB1.out.trans ((((Below.refl _ _).alloc (Nat.le_refl _) _).trans (HB2.out.mono (by simp))).mono HB1.out.size)).alloc (Nat.le_trans HB1.out.size (by omega)) _)
      have O1 := fun w => order_ref A1 A2 (by omega) (by omega) w
      have O2 := fun w => order_ref B1 B2 (by omega) (by omega) w
      have v1 := order_good.vals A1.data.toList A2.data.toList
      have v2 := order_good.vals B1.data.toList B2.data.toList
      generalize order A1.data.toList A2.data.toList = c at *
      generalize order B1.data.toList B2.data.toList = d at *
      have hc : -1 ≤ c ∧ c ≤ 1 := by omega
      have hd : -1 ≤ d ∧ d ≤ 1 := by omega
      obtain ⟨hc1, hc2⟩ := hc
      obtain ⟨hd1, hd2⟩ := hd
      have F : Hid ((x1 < x2 ∧ R = -1) ∨ (x2 < x1 ∧ R = 1) ∨ (x1 = x2 ∧ ((¬ c = 0 ∧ R = c) ∨ (c = 0 ∧ R = d)))) := Lib.hid (by
        rcases sgn_cases x1 x2 with ⟨h, g⟩ | ⟨h, g⟩ | ⟨h, g⟩
        · left; rw [g, if_pos (by omega)] at hcp; exact ⟨h, hcp⟩
        · right; left; rw [g, if_pos (by omega)] at hcp; exact ⟨h, hcp⟩
        · right; right
          rw [g, if_neg (by omega)] at hcp
          by_cases e : c = 0
          · rw [if_neg (by omega)] at hcp; exact ⟨h, .inr ⟨e, hcp⟩⟩
          · rw [if_pos e] at hcp; exact ⟨h, .inl ⟨e, hcp⟩⟩)
      clear hcp HA HC HB1 HB2 v1 v2 HR
      rcases F.out with ⟨h, g⟩ | ⟨h, g⟩ | ⟨h, ⟨e, g⟩ | ⟨e, g⟩⟩
      · have G := Lib.hid g
        clear g F O1 O2
        go_wp2
        go_ret
        exact ⟨reti G.out.symm, HBB.out⟩
      · have G := Lib.hid g
        clear g F O1 O2
        go_wp2
        go_ret
        exact ⟨reti G.out.symm, HBB.out⟩
      · have G := Lib.hid g
        have e' : (c != 0) = true := by simpa using e
        subst h
        clear g F O2
        go_wp2_with (first | (go_at_call 130; refine (O1 _).mono ?_; rintro e w1 ⟨rfl, q1, rfl⟩))
        go_ret
        exact ⟨reti G.out.symm, belowQ HBB.out _⟩
      · have G := Lib.hid g
        subst h
        subst e
        clear g F
        go_wp2_with (first | (go_at_call 130; refine (O1 _).mono ?_; clear O1; rintro e w1 ⟨rfl, q1, rfl⟩) | (go_at_call 130; refine (O2 _).mono ?_; rintro e w1 ⟨rfl, q2, rfl⟩))
        go_ret
        exact ⟨reti G.out.symm, by first | exact belowQ (belowQ HBB.out _) _ | exact belowQ HBB.out _⟩
end Go.Proofs.YtkcamfcjkjiijaaGreatDoor
