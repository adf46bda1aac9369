/-
  The law RelationParses, walked: true; nothing old turns. Condition: LaidQ.
-/
import Derived.Test.YtbndndpjbhodbaaGreatDoorQRefPL
namespace Go.Proofs.YtbndndpjbhodbaaGreatDoor.relationParsesw
open Go.RowKit
def errO (b : Bool) : Int := if b then 0 else 2
theorem pieceA {s : Bs} (h : s.length ≤ 4000) : ∀ p ∈ Lib.splitN s sepA 65, p.length ≤ 100000 ∧ ∀ q ∈ Lib.splitN p sepG 65, q.length ≤ 4000 := fun p hp => by
  unfold Lib.splitN at hp
  have h1 := splitK_piece _ _ _ p hp
  refine ⟨by omega, fun q hq => ?_⟩
  unfold Lib.splitN at hq
  have := splitK_piece _ _ _ q hq
  omega
theorem pieceQ {s : Bs} (h : s.length ≤ 4000) : ∀ p ∈ Lib.splitN s sepA 65, p.length ≤ 4000 := fun p hp => by
  unfold Lib.splitN at hp
  have h1 := splitK_piece _ _ _ p hp
  omega
theorem ga_small {s : Bs} (h : s.length ≤ 2000) {L : List Gv} (hL : fsts L = (parseA s).getD []) : L.length ≤ 64 ∧ ∀ x ∈ L, SmallQ x.1 ∧ x.1.length ≤ 64 := by
  have hlen : L.length = (fsts L).length := (List.length_map ..).symm
  cases hp : parseA s with
  | none =>
    rw [hp] at hL
    have h0 : fsts L = [] := hL
    have : L = [] := List.map_eq_nil_iff.1 h0
    subst this
    exact ⟨by simp, fun x hx => by cases hx⟩
  | some l =>
    rw [hp] at hL
    have h0 : fsts L = l := hL
    obtain ⟨ht, hr⟩ := textA_inv hp
    rw [h0] at hlen
    refine ⟨by have := hr.1; omega, fun x hx => ?_⟩
    have hm : x.1 ∈ l := by rw [← h0]; exact List.mem_map_of_mem hx
    refine ⟨?_, (hr.2 x.1 hm).2.1⟩
    have e := refRead_text (fun e => by rw [e] at hm; cases hm) hr
    rw [ht] at e
    intro y hy
    have := ((read_small e).2 x.1 hm).2 y hy
    omega
theorem all_ga (s : Bs) : allE ((parseA s).getD []) = (if (parseA s).isSome then s else [], 0) := by
  cases hp : parseA s with
  | none => rfl
  | some l =>
    obtain ⟨ht, hr⟩ := textA_inv hp
    show allE l = (s, 0)
    rw [allE_right hr, ht]
theorem c1 (s : ByteArray) (hs : s.size ≤ 2000) (w : World) (hL : LaidQ w) : Calls Tryz.prog 19 #[.string s] w fun e w' => ∃ a n c L, e = .returned (.tuple #[.slice a n c, .int .i64 (errO (parseA s.data.toList).isSome)]) ∧ fsts L = (parseA s.data.toList).getD [] ∧ HoldGs w' (.slice a n c) L ∧ Below w.heap.size w w' := by
  refine (parseAllQ_any s (by omega) (pieceA (by rw [← sizeOf]; omega)) w hL).mono fun e w' h => ?_
  cases hp : parseA s.data.toList with
  | none =>
    rw [hp] at h
    obtain ⟨rfl, hb⟩ := cutPostG_none h
    exact ⟨_, _, _, [], rfl, rfl, (OwnGs.nil w' 0).holds, hb⟩
  | some l =>
    rw [hp] at h
    obtain ⟨a, n, c, L, rfl, hf, ho, hb⟩ := cutPostG_some h
    exact ⟨a, n, c, L, rfl, hf, ho.holds, hb⟩
theorem c2 (s : ByteArray) (hs : s.size ≤ 2000) (w : World) : Calls Tryz.prog 21 #[.string s] w fun e w' => ∃ a n c L, e = .returned (.tuple #[.slice a n c, .bool (parseA s.data.toList).isSome]) ∧ fsts L = (parseA s.data.toList).getD [] ∧ HoldGs w' (.slice a n c) L ∧ Below w.heap.size w w' := by
  refine (parseAll_ref s (by omega) w).mono fun e w' h => ?_
  obtain ⟨a, n, c, L, b, rfl, -, -, -, ho, hp, hb0, hb⟩ := paPost_any h
  rw [hp]
  cases b with
  | false => exact ⟨a, n, c, L, rfl, by rw [hb0 rfl]; rfl, ho.holds, hb⟩
  | true => exact ⟨a, n, c, L, rfl, rfl, ho.holds, hb⟩
theorem c3 (s : ByteArray) (hs : s.size ≤ 2000) (w : World) (hL : LaidQ w) : Calls Tryz.prog 22 #[.string s] w fun e w' => ∃ a n c, e = .returned (.tuple #[.slice a n c, .int .i64 (errO (parseQ s.data.toList).isSome)]) ∧ HoldQ w' (.slice a n c) ((parseQ s.data.toList).getD []) ∧ Below w.heap.size w w' := by
  refine (parseListQ_any s (by omega) (pieceQ (by rw [← sizeOf]; omega)) w hL).mono fun e w' h => ?_
  cases hp : parseQ s.data.toList with
  | none =>
    rw [hp] at h
    obtain ⟨rfl, hb⟩ := cutPost_none h
    exact ⟨_, _, _, rfl, (OwnV.nil 23 3 w' 0).holds, hb⟩
  | some l =>
    rw [hp] at h
    obtain ⟨a, c, rfl, ho, hb⟩ := cutPost_some h
    exact ⟨a, _, c, rfl, ho.holds, hb⟩
theorem c4 (s : ByteArray) (hs : s.size ≤ 2000) (w : World) : Calls Tryz.prog 23 #[.string s] w fun e w' => ∃ a n c, e = .returned (.tuple #[.slice a n c, .bool (parseQ s.data.toList).isSome]) ∧ HoldQ w' (.slice a n c) ((parseQ s.data.toList).getD []) ∧ Below w.heap.size w w' := by
  refine (parseList_ref s (by omega) w).mono fun e w' h => ?_
  obtain ⟨⟨v, rfl, ho⟩, hb⟩ := h
  obtain ⟨a, c, hv⟩ := OwnV.form ho
  subst hv
  exact ⟨a, _, c, rfl, ho.holds, hb⟩
theorem c5 (ok : Bool) (w : World) : Calls Tryz.prog 12 #[.int .i64 (errO ok), .bool ok] w fun e w' => e = .returned (.bool true) ∧ w = w' := by
  refine (is_any (errO ok) ok w).mono fun e w' h => ⟨?_, h.2⟩
  rw [h.1]; cases ok <;> rfl
theorem gq_small (s : Bs) : ((parseQ s).getD []).length ≤ 90000 := by
  cases hp : parseQ s with
  | none => simp
  | some l => have := (textQ_inv hp).2.1; show l.length ≤ 90000; omega
set_option maxRecDepth 100000 in
set_option maxHeartbeats 16000000 in
theorem walk (s : ByteArray) (w : World) (hL : LaidQ w) : Calls Tryz.prog 5 #[.string s] w fun e w' => e = .returned (.bool true) ∧ Below w.heap.size w w' := by
  have A7 := fun W h => awake7 W h
  have HL := Lib.hid hL
  have HB0 := Lib.hid (Below.refl w.heap.size w)
  by_cases hs : 2000 < s.size
  · clear hL
    go_enter Tryz.func5, Tryz.ntmps5
    go_wp2_with (go_at_call 9; (with_reducible refine (A7 _ HL.out).mono ?_); rintro e w2 ⟨rfl, hb⟩; have HB9 := Lib.hid hb; clear hb)
    go_ret
    exact ⟨rfl, HB9.out⟩
  have hs2 : s.size ≤ 2000 := by omega
  have C1 := fun W h => c1 s hs2 W h
  have C2 := fun W => c2 s hs2 W
  have C3 := fun W h => c3 s hs2 W h
  have C4 := fun W => c4 s hs2 W
  have HGA : Hid (∀ L : List Gv, fsts L = (parseA s.data.toList).getD [] → L.length ≤ 64 ∧ ∀ x ∈ L, SmallQ x.1 ∧ x.1.length ≤ 64) := Lib.hid (fun L h => ga_small (by rw [← sizeOf]; exact hs2) h)
  have HGQ := Lib.hid (gq_small s.data.toList)
  have HAL : Hid (∀ v (L : List Gv) W, fsts L = (parseA s.data.toList).getD [] → LaidQ W → HoldGs W v L → Calls Tryz.prog 17 #[v] W fun e w' => e = .returned (.tuple #[.string (bsT (if (parseA s.data.toList).isSome then s.data.toList else [])), .int .i64 0]) ∧ Below W.heap.size W w') := Lib.hid (fun v L W h1 h2 h3 => by
    obtain ⟨g1, g2⟩ := HGA.out L h1
    have := all_any v L (by omega) (fun x hx => ⟨(g2 x hx).1, by have := (g2 x hx).2; omega⟩) W h3 h2.v
    unfold TwoP at this
    rw [h1, all_ga] at this
    exact this)
  generalize (parseA s.data.toList).getD [] = GA at *
  generalize (parseQ s.data.toList).getD [] = GQ at *
  generalize (parseQ s.data.toList).isSome = okQ at *
  obtain ⟨ok, hok⟩ : ∃ ok, (parseA s.data.toList).isSome = ok := ⟨_, rfl⟩
  rw [hok] at C1 C2 HAL
  have C5 := c5
  have HSG : Hid (∀ u v (L M : List Gv) W, fsts L = GA → fsts M = GA → HoldGs W u L → HoldGs W v M → Calls Tryz.prog 20 #[u, v] W fun e w' => e = .returned (.bool true) ∧ Below W.heap.size W w') := Lib.hid (fun u v L M W h1 h2 h3 h4 => by
    obtain ⟨g1, g2⟩ := HGA.out L h1
    exact sameG_ref u v L M (h1.trans h2.symm) (by omega) (fun p hp => by have := (g2 p hp).2; omega) W h3 h4)
  have HSQ : Hid (∀ u v W, HoldQ W u GQ → HoldQ W v GQ → Calls Tryz.prog 24 #[u, v] W fun e w' => e = .returned (.bool true) ∧ Below W.heap.size W w') := Lib.hid (fun u v W h1 h2 => (sameQ_ref u v GQ HGQ.out W h1 h2).mono (fun _ w' hp => ⟨hp.1, by obtain ⟨q, hq⟩ := hp.2; rw [hq]; exact belowQ (Below.refl _ _) q⟩))
  have hq : (s.toList == s.toList) = true := by rw [eqT]; simp
  clear hL hok HGA HGQ
  generalize hz1 : errO ok = z1 at *
  generalize hz2 : errO okQ = z2 at *
  have C51 := fun W => hz1 ▸ C5 ok W
  have C52 := fun W => hz2 ▸ C5 okQ W
  clear C5 hz1 hz2
  have hT : Hid (ok = true → bsT (if ok then s.data.toList else []) = s) := Lib.hid (fun h => by rw [h]; cases s; simp)
  generalize bsT (if ok then s.data.toList else []) = T at *
  cases ok
  all_goals
    first | (have hTs := hT.out rfl; subst hTs) | skip
    clear hT
    go_enter Tryz.func5, Tryz.ntmps5
    go_wp2_with (first
      | (go_at_call 19; (with_reducible refine (C1 _ HL.out).mono ?_); rintro e w1 ⟨a1, n1, d1, L1, rfl, hf1, hh1, hb⟩; have HF1 := Lib.hid hf1; have HH1 := Lib.hid hh1; have HB1 := Lib.hid hb; clear hf1 hh1 hb C1)
      | (go_at_call 21; (with_reducible refine (C2 _).mono ?_); rintro e w2 ⟨a2, n2, d2, L2, rfl, hf2, hh2, hb⟩; have HF2 := Lib.hid hf2; have HH2 := Lib.hid hh2; have HP2 := Lib.hid (HoldGs.on HH1.out hb); have HB2 := Lib.hid (HB1.out.trans (hb.mono HB1.out.size)); clear hf2 hh2 hb C2)
      | (go_at_call 22; (with_reducible refine (C3 _ (HL.out.on HB2.out)).mono ?_); rintro e w3 ⟨a3, n3, d3, rfl, hh3, hb⟩; have HH3 := Lib.hid hh3; have HP3 := Lib.hid (HoldGs.on HP2.out hb); have HR3 := Lib.hid (HoldGs.on HH2.out hb); have HB3 := Lib.hid (HB2.out.trans (hb.mono HB2.out.size)); clear hh3 hb C3)
      | (go_at_call 23; (with_reducible refine (C4 _).mono ?_); rintro e w4 ⟨a4, n4, d4, rfl, hh4, hb⟩; have HH4 := Lib.hid hh4; have HP4 := Lib.hid (HoldGs.on HP3.out hb); have HR4 := Lib.hid (HoldGs.on HR3.out hb); have HS4 := Lib.hid (HoldV.on HH3.out hb); have HB4 := Lib.hid (HB3.out.trans (hb.mono HB3.out.size)); clear hh4 hb C4)
      | (go_at_call 20; (with_reducible refine (HSG.out _ _ L1 L2 _ HF1.out HF2.out HP4.out HR4.out).mono ?_); rintro e w5 ⟨rfl, hb⟩; have HP5 := Lib.hid (HoldGs.on HP4.out hb); have HS5 := Lib.hid (HoldV.on HS4.out hb); have HV5 := Lib.hid (HoldV.on HH4.out hb); have HB5 := Lib.hid (HB4.out.trans (hb.mono HB4.out.size)); clear hb)
      | (go_at_call 12; (with_reducible first | refine (C51 _).mono ?_ | refine (C52 _).mono ?_); rintro e w6 ⟨rfl, hw6⟩; subst hw6)
      | (go_at_call 24; (with_reducible refine (HSQ.out _ _ _ HS5.out HV5.out).mono ?_); rintro e w7 ⟨rfl, hb⟩; have HP7 := Lib.hid (HoldGs.on HP5.out hb); have HB7 := Lib.hid (HB5.out.trans (hb.mono HB5.out.size)); clear hb)
      | (go_at_call 17; (with_reducible refine (HAL.out _ L1 _ HF1.out (HL.out.on HB7.out) HP7.out).mono ?_); rintro e w8 ⟨rfl, hb⟩; have HB8 := Lib.hid (HB7.out.trans (hb.mono HB7.out.size)); clear hb)
      | (go_at_call 9; (with_reducible refine (A7 _ (HL.out.on HB8.out)).mono ?_); rintro e w9 ⟨rfl, hb⟩; have HB9 := Lib.hid (HB8.out.trans (hb.mono HB8.out.size)); clear hb))
    go_ret
    exact ⟨rfl, HB9.out⟩
end Go.Proofs.YtbndndpjbhodbaaGreatDoor.relationParsesw
