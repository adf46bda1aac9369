/-
  The walk of TrigsParses: for every text it returns true; nothing old turns. Condition: LaidP.
-/
import Derived.Test.YtceohgjfjndcmaaGreatDoorGAwake
import Derived.Test.YtceohgjfjndcmaaGreatDoorGRefParseF
namespace Go.Proofs.YtceohgjfjndcmaaGreatDoor.trigsParsesw
open Go.RowKit
theorem pieces_len (s : Bs) (h : s.length ≤ 3000) : ∀ p ∈ spl 10 s, p.length ≤ 4000 := fun p hp => by
  have := spl_piece 10 s p hp; omega
theorem small_chkI {l : List It} (h : chkI l = 0) : l.length ≤ 90000 ∧ SmallI l := by
  obtain ⟨h1, h2⟩ := chkI_zero h
  refine ⟨by omega, fun x hx => ?_⟩
  obtain ⟨g1, g2⟩ := rightI_parts (h2.right x hx)
  have := trig_len g1
  have := name_len g2
  omega
theorem small_chkF {m : List Fr} (h : chkF m = 0) {M : List Fp} (hM : M.map (·.1) = m) : M.length ≤ 90000 ∧ SmallF M := by
  obtain ⟨h1, h2⟩ := chkF_zero h
  have h3 : M.length = m.length := by rw [← hM, List.length_map]
  refine ⟨by omega, fun p hp => ?_⟩
  obtain ⟨g1, g2⟩ := rightF_parts (h2.right p.1 (by rw [← hM]; exact List.mem_map_of_mem hp))
  have := trig_len g1
  have g3 := by_names g2
  have g4 := (chkG_zero g2).1
  exact ⟨by omega, by omega, fun x hx => by have := name_len (g3 x hx); omega⟩
def WayI (s : Bs) (l : List It) (z : Int) (b : Bool) : Prop := (parseI s = some l ∧ z = 0 ∧ b = true) ∨ (parseI s = none ∧ l = [] ∧ z = 2 ∧ b = false)
def WayF (s : Bs) (l : List Fr) (z : Int) (b : Bool) : Prop := (parseF s = some l ∧ z = 0 ∧ b = true) ∨ (parseF s = none ∧ l = [] ∧ z = 2 ∧ b = false)
theorem PI (s : ByteArray) (hs : s.size ≤ 90000) (hp : ∀ p ∈ spl 10 s.data.toList, p.length ≤ 4000) {l : List It} {z : Int} {b : Bool} (hw : WayI s.data.toList l z b) (w : World) (hL : LaidP w) : Calls Tryz.prog 13 #[.string s] w fun e w' => ∃ v, e = .returned (.tuple #[v, .int .i64 z]) ∧ HoldI w' v l ∧ Below w.heap.size w w' := by
  refine (parseI_any s hs hp w hL).mono ?_
  rintro e w' ⟨v, z', rfl, h1, h2, hb⟩
  rcases hw with ⟨hw, rfl, rfl⟩ | ⟨hw, rfl, rfl, rfl⟩
  · obtain ⟨rfl, hh⟩ := h1 l hw; exact ⟨v, rfl, hh, hb⟩
  · obtain ⟨rfl, rfl⟩ := h2 hw; exact ⟨_, rfl, HoldV.nil 3 w', hb⟩
theorem RI (s : ByteArray) (hs : s.size ≤ 90000) (hp : ∀ p ∈ spl 10 s.data.toList, p.length ≤ 4000) {l : List It} {z : Int} {b : Bool} (hw : WayI s.data.toList l z b) (w : World) : Calls Tryz.prog 22 #[.string s] w fun e w' => ∃ v, e = .returned (.tuple #[v, .bool b]) ∧ HoldI w' v l ∧ Below w.heap.size w w' := by
  refine (parseI_ref s hs hp w).mono ?_
  rintro e w' ⟨v, z', rfl, h1, h2, hb⟩
  rcases hw with ⟨hw, rfl, rfl⟩ | ⟨hw, rfl, rfl, rfl⟩
  · obtain ⟨rfl, hh⟩ := h1 l hw; exact ⟨v, rfl, hh, hb⟩
  · obtain ⟨rfl, rfl⟩ := h2 hw; exact ⟨_, rfl, HoldV.nil 3 w', hb⟩
theorem PF (s : ByteArray) (hs : s.size ≤ 90000) (hp : ∀ p ∈ spl 10 s.data.toList, p.length ≤ 4000) {l : List Fr} {z : Int} {b : Bool} (hw : WayF s.data.toList l z b) (w : World) (hL : LaidP w) : Calls Tryz.prog 20 #[.string s] w fun e w' => ∃ v, e = .returned (.tuple #[v, .int .i64 z]) ∧ (∃ L : List Fp, L.map (·.1) = l ∧ HoldF w' v L) ∧ Below w.heap.size w w' := by
  refine (parseFr_any s hs hp w hL).mono ?_
  rintro e w' ⟨v, z', rfl, h1, h2, hb⟩
  rcases hw with ⟨hw, rfl, rfl⟩ | ⟨hw, rfl, rfl, rfl⟩
  · obtain ⟨rfl, hh⟩ := h1 l hw; exact ⟨v, rfl, hh, hb⟩
  · obtain ⟨rfl, rfl⟩ := h2 hw; exact ⟨_, rfl, ⟨[], rfl, holdF_nil w'⟩, hb⟩
theorem RF (s : ByteArray) (hs : s.size ≤ 90000) (hp : ∀ p ∈ spl 10 s.data.toList, p.length ≤ 4000) {l : List Fr} {z : Int} {b : Bool} (hw : WayF s.data.toList l z b) (w : World) : Calls Tryz.prog 23 #[.string s] w fun e w' => ∃ v, e = .returned (.tuple #[v, .bool b]) ∧ (∃ L : List Fp, L.map (·.1) = l ∧ HoldF w' v L) ∧ Below w.heap.size w w' := by
  refine (parseFr_ref s hs hp w).mono ?_
  rintro e w' ⟨v, z', rfl, h1, h2, hb⟩
  rcases hw with ⟨hw, rfl, rfl⟩ | ⟨hw, rfl, rfl, rfl⟩
  · obtain ⟨rfl, hh⟩ := h1 l hw; exact ⟨v, rfl, hh, hb⟩
  · obtain ⟨rfl, rfl⟩ := h2 hw; exact ⟨_, rfl, ⟨[], rfl, holdF_nil w'⟩, hb⟩
theorem chkI_nil : chkI [] = 0 := chkI_ok (by decide) (fun i x hx => by simp at hx)
theorem chkF_nil : chkF [] = 0 := by
  rw [chkF_calm (by rintro ⟨x, hx, _⟩; simp at hx)]
  exact kchkF_ok (by decide) (fun i x hx => by simp at hx)
theorem wayI (s : Bs) : ∃ l z b, WayI s l z b ∧ chkI l = 0 ∧ (b = true → textI l = s) ∧ (z = 0 ∧ b = true ∨ z = 2 ∧ b = false) := by
  cases h : parseI s with
  | none => exact ⟨[], 2, false, .inr ⟨h, rfl, rfl, rfl⟩, chkI_nil, by simp, by simp⟩
  | some l =>
    obtain ⟨h1, h2, h3⟩ := text_parseI h
    exact ⟨l, 0, true, .inl ⟨h, rfl, rfl⟩, h2, fun _ => h3, by simp⟩
theorem wayF (s : Bs) : ∃ l z b, WayF s l z b ∧ chkF l = 0 ∧ (b = true → textF l = s) ∧ (z = 0 ∧ b = true ∨ z = 2 ∧ b = false) := by
  cases h : parseF s with
  | none => exact ⟨[], 2, false, .inr ⟨h, rfl, rfl, rfl⟩, chkF_nil, by simp, by simp⟩
  | some l =>
    obtain ⟨h1, h2, h3⟩ := text_parseF h
    exact ⟨l, 0, true, .inl ⟨h, rfl, rfl⟩, h2, fun _ => h3, by simp⟩
set_option maxRecDepth 100000 in
set_option maxHeartbeats 8000000 in
theorem walk (s : ByteArray) (bs : s.size ≤ 9223372036854775807) (w : World) (hL : LaidP w) :
    Calls Tryz.prog 5 #[.string s] w fun e' w' => e' = .returned (.bool true) ∧ Below w.heap.size w w' := by
  have AW := fun W (hb : Below w.heap.size w W) => awake12 W (hL.on hb)
  have HR := Lib.hid (Below.refl w.heap.size w)
  have hL0 := Lib.hid hL
  clear hL
  by_cases hs : 3000 < s.size
  · go_enter Tryz.func5, Tryz.ntmps5
    go_wp2_with (go_at_call 8; refine (AW _ HR.out).mono ?_; rintro e w2 ⟨rfl, hb⟩)
    go_ret
    exact ⟨rfl, hb⟩
  have hpl : ∀ p ∈ spl 10 s.data.toList, p.length ≤ 4000 := pieces_len _ (by rw [← sizeOf]; omega)
  obtain ⟨l, zi, bi, hwi, hci, hti, hzi⟩ := wayI s.data.toList
  obtain ⟨m, zf, bf, hwf, hcf, htf, hzf⟩ := wayF s.data.toList
  have P1 := fun W (hb : Below w.heap.size w W) => PI s (by omega) hpl hwi W (hL0.out.on hb)
  have P2 := fun W => RI s (by omega) hpl hwi W
  have P3 := fun W (hb : Below w.heap.size w W) => PF s (by omega) hpl hwf W (hL0.out.on hb)
  have P4 := fun W => RF s (by omega) hpl hwf W
  obtain ⟨hs1, hs2⟩ := small_chkI hci
  have SI := fun u v W (h1 : HoldI W u l) (h2 : HoldI W v l) => sameI_ref u v l hs1 W h1 h2
  have SF := fun u v (M M' : List Fp) W (hM : M.map (·.1) = m) (hM' : M'.map (·.1) = m) (h1 : HoldF W u M) (h2 : HoldF W v M') => sameF_ref u v M M' (by rw [hM, hM']) (small_chkF hcf hM).1 (fun p hp => ((small_chkF hcf hM).2 p hp).2.1) W h1 h2
  have Q1 := fun v W (hb : Below w.heap.size w W) (h : HoldI W v l) => printI_any v l hs1 hs2 W (hL0.out.on hb) h
  have Q2 := fun v (M : List Fp) W (hb : Below w.heap.size w W) (hM : M.map (·.1) = m) (h : HoldF W v M) => (by
    have := printF_any v M (small_chkF hcf hM).1 (small_chkF hcf hM).2 W (hL0.out.on hb) h
    rw [hM] at this; exact this : Calls Tryz.prog 16 #[v] W (PrPostF m W))
  unfold PrPostI at Q1
  unfold PrPostF at Q2
  rw [printI_ok hci] at Q1
  rw [printFr_ok hcf] at Q2
  dsimp only at Q1 Q2
  have e1 := eqT s s
  rw [decide_eq_true rfl] at e1
  rcases hzi with ⟨rfl, rfl⟩ | ⟨rfl, rfl⟩ <;> rcases hzf with ⟨rfl, rfl⟩ | ⟨rfl, rfl⟩
  · rw [hti rfl, show bsT s.data.toList = s from (strOf (x := s) rfl).symm] at Q1
    rw [htf rfl, show bsT s.data.toList = s from (strOf (x := s) rfl).symm] at Q2
    clear hpl hwi hwf hci hcf hti htf hs1 hs2
    go_enter Tryz.func5, Tryz.ntmps5
    go_wp2_with (first
      | (go_at_call 13; (with_reducible refine (P1 _ HR.out).mono ?_); rintro e w1 ⟨v1, rfl, hv, hb⟩; have HV1 := Lib.hid hv; have HB1 := Lib.hid hb; clear hb hv P1)
      | (go_at_call 22; (with_reducible refine (P2 _).mono ?_); rintro e w2 ⟨v2, rfl, hv, hb⟩; have HV2 := Lib.hid hv; have HV12 := Lib.hid (HoldV.on HV1.out hb); have HB2 := Lib.hid (HB1.out.trans (hb.mono HB1.out.size)); clear hb hv P2)
      | (go_at_call 20; (with_reducible refine (P3 _ HB2.out).mono ?_); rintro e w3 ⟨v3, rfl, ⟨M3, hm, hv⟩, hb⟩; have HV3 := Lib.hid hv; have HM3 := Lib.hid hm; have HV13 := Lib.hid (HoldV.on HV12.out hb); have HV23 := Lib.hid (HoldV.on HV2.out hb); have HB3 := Lib.hid (HB2.out.trans (hb.mono HB2.out.size)); clear hb hv hm P3)
      | (go_at_call 23; (with_reducible refine (P4 _).mono ?_); rintro e w4 ⟨v4, rfl, ⟨M4, hm, hv⟩, hb⟩; have HV4 := Lib.hid hv; have HM4 := Lib.hid hm; have HV14 := Lib.hid (HoldV.on HV13.out hb); have HV24 := Lib.hid (HoldV.on HV23.out hb); have HV34 := Lib.hid (HV3.out.on hb); have HB4 := Lib.hid (HB3.out.trans (hb.mono HB3.out.size)); clear hb hv hm P4)
      | (go_at_call 14; (with_reducible refine (SI _ _ _ HV14.out HV24.out).mono ?_); rintro e w5 ⟨rfl, q, rfl⟩; have HB5 := Lib.hid (belowQ HB4.out q); have HV15 := Lib.hid (HoldV.on HV14.out (belowQ (Below.refl _ _) q)); have HV35 := Lib.hid (HV34.out.on (belowQ (Below.refl _ _) q)); have HV45 := Lib.hid (HV4.out.on (belowQ (Below.refl _ _) q)); clear SI)
      | (go_at_call 21; (with_reducible refine (SF _ _ _ _ _ HM3.out HM4.out HV35.out HV45.out).mono ?_); rintro e w6 ⟨rfl, hb⟩; have HB6 := Lib.hid (HB5.out.trans (hb.mono HB5.out.size)); have HV16 := Lib.hid (HoldV.on HV15.out hb); have HV36 := Lib.hid (HV35.out.on hb); clear hb SF)
      | (go_at_call 9; (with_reducible refine (Q1 _ _ HB6.out HV16.out).mono ?_); rintro e w7 ⟨rfl, hb⟩; have HB7 := Lib.hid (HB6.out.trans (hb.mono HB6.out.size)); have HV37 := Lib.hid (HV36.out.on hb); clear hb Q1)
      | (go_at_call 16; (with_reducible refine (Q2 _ _ _ HB7.out HM3.out HV37.out).mono ?_); rintro e w8 ⟨rfl, hb⟩; have HB8 := Lib.hid (HB7.out.trans (hb.mono HB7.out.size)); clear hb Q2)
      | (go_at_call 8; refine (AW _ HB8.out).mono ?_; rintro e w9 ⟨rfl, hb⟩; have HB9 := Lib.hid (HB8.out.trans (hb.mono HB8.out.size)); clear hb))
    go_ret
    exact ⟨rfl, HB9.out⟩
  · rw [hti rfl, show bsT s.data.toList = s from (strOf (x := s) rfl).symm] at Q1
    generalize bsT (textF m) = TF at *
    clear hpl hwi hwf hci hcf hti htf hs1 hs2
    go_enter Tryz.func5, Tryz.ntmps5
    go_wp2_with (first
      | (go_at_call 13; (with_reducible refine (P1 _ HR.out).mono ?_); rintro e w1 ⟨v1, rfl, hv, hb⟩; have HV1 := Lib.hid hv; have HB1 := Lib.hid hb; clear hb hv P1)
      | (go_at_call 22; (with_reducible refine (P2 _).mono ?_); rintro e w2 ⟨v2, rfl, hv, hb⟩; have HV2 := Lib.hid hv; have HV12 := Lib.hid (HoldV.on HV1.out hb); have HB2 := Lib.hid (HB1.out.trans (hb.mono HB1.out.size)); clear hb hv P2)
      | (go_at_call 20; (with_reducible refine (P3 _ HB2.out).mono ?_); rintro e w3 ⟨v3, rfl, ⟨M3, hm, hv⟩, hb⟩; have HV3 := Lib.hid hv; have HM3 := Lib.hid hm; have HV13 := Lib.hid (HoldV.on HV12.out hb); have HV23 := Lib.hid (HoldV.on HV2.out hb); have HB3 := Lib.hid (HB2.out.trans (hb.mono HB2.out.size)); clear hb hv hm P3)
      | (go_at_call 23; (with_reducible refine (P4 _).mono ?_); rintro e w4 ⟨v4, rfl, ⟨M4, hm, hv⟩, hb⟩; have HV4 := Lib.hid hv; have HM4 := Lib.hid hm; have HV14 := Lib.hid (HoldV.on HV13.out hb); have HV24 := Lib.hid (HoldV.on HV23.out hb); have HV34 := Lib.hid (HV3.out.on hb); have HB4 := Lib.hid (HB3.out.trans (hb.mono HB3.out.size)); clear hb hv hm P4)
      | (go_at_call 14; (with_reducible refine (SI _ _ _ HV14.out HV24.out).mono ?_); rintro e w5 ⟨rfl, q, rfl⟩; have HB5 := Lib.hid (belowQ HB4.out q); have HV15 := Lib.hid (HoldV.on HV14.out (belowQ (Below.refl _ _) q)); have HV35 := Lib.hid (HV34.out.on (belowQ (Below.refl _ _) q)); have HV45 := Lib.hid (HV4.out.on (belowQ (Below.refl _ _) q)); clear SI)
      | (go_at_call 21; (with_reducible refine (SF _ _ _ _ _ HM3.out HM4.out HV35.out HV45.out).mono ?_); rintro e w6 ⟨rfl, hb⟩; have HB6 := Lib.hid (HB5.out.trans (hb.mono HB5.out.size)); have HV16 := Lib.hid (HoldV.on HV15.out hb); have HV36 := Lib.hid (HV35.out.on hb); clear hb SF)
      | (go_at_call 9; (with_reducible refine (Q1 _ _ HB6.out HV16.out).mono ?_); rintro e w7 ⟨rfl, hb⟩; have HB7 := Lib.hid (HB6.out.trans (hb.mono HB6.out.size)); have HV37 := Lib.hid (HV36.out.on hb); clear hb Q1)
      | (go_at_call 16; (with_reducible refine (Q2 _ _ _ HB7.out HM3.out HV37.out).mono ?_); rintro e w8 ⟨rfl, hb⟩; have HB8 := Lib.hid (HB7.out.trans (hb.mono HB7.out.size)); clear hb Q2)
      | (go_at_call 8; refine (AW _ HB8.out).mono ?_; rintro e w9 ⟨rfl, hb⟩; have HB9 := Lib.hid (HB8.out.trans (hb.mono HB8.out.size)); clear hb))
    go_ret
    exact ⟨rfl, HB9.out⟩
  · generalize bsT (textI l) = TI at *
    rw [htf rfl, show bsT s.data.toList = s from (strOf (x := s) rfl).symm] at Q2
    clear hpl hwi hwf hci hcf hti htf hs1 hs2
    go_enter Tryz.func5, Tryz.ntmps5
    go_wp2_with (first
      | (go_at_call 13; (with_reducible refine (P1 _ HR.out).mono ?_); rintro e w1 ⟨v1, rfl, hv, hb⟩; have HV1 := Lib.hid hv; have HB1 := Lib.hid hb; clear hb hv P1)
      | (go_at_call 22; (with_reducible refine (P2 _).mono ?_); rintro e w2 ⟨v2, rfl, hv, hb⟩; have HV2 := Lib.hid hv; have HV12 := Lib.hid (HoldV.on HV1.out hb); have HB2 := Lib.hid (HB1.out.trans (hb.mono HB1.out.size)); clear hb hv P2)
      | (go_at_call 20; (with_reducible refine (P3 _ HB2.out).mono ?_); rintro e w3 ⟨v3, rfl, ⟨M3, hm, hv⟩, hb⟩; have HV3 := Lib.hid hv; have HM3 := Lib.hid hm; have HV13 := Lib.hid (HoldV.on HV12.out hb); have HV23 := Lib.hid (HoldV.on HV2.out hb); have HB3 := Lib.hid (HB2.out.trans (hb.mono HB2.out.size)); clear hb hv hm P3)
      | (go_at_call 23; (with_reducible refine (P4 _).mono ?_); rintro e w4 ⟨v4, rfl, ⟨M4, hm, hv⟩, hb⟩; have HV4 := Lib.hid hv; have HM4 := Lib.hid hm; have HV14 := Lib.hid (HoldV.on HV13.out hb); have HV24 := Lib.hid (HoldV.on HV23.out hb); have HV34 := Lib.hid (HV3.out.on hb); have HB4 := Lib.hid (HB3.out.trans (hb.mono HB3.out.size)); clear hb hv hm P4)
      | (go_at_call 14; (with_reducible refine (SI _ _ _ HV14.out HV24.out).mono ?_); rintro e w5 ⟨rfl, q, rfl⟩; have HB5 := Lib.hid (belowQ HB4.out q); have HV15 := Lib.hid (HoldV.on HV14.out (belowQ (Below.refl _ _) q)); have HV35 := Lib.hid (HV34.out.on (belowQ (Below.refl _ _) q)); have HV45 := Lib.hid (HV4.out.on (belowQ (Below.refl _ _) q)); clear SI)
      | (go_at_call 21; (with_reducible refine (SF _ _ _ _ _ HM3.out HM4.out HV35.out HV45.out).mono ?_); rintro e w6 ⟨rfl, hb⟩; have HB6 := Lib.hid (HB5.out.trans (hb.mono HB5.out.size)); have HV16 := Lib.hid (HoldV.on HV15.out hb); have HV36 := Lib.hid (HV35.out.on hb); clear hb SF)
      | (go_at_call 9; (with_reducible refine (Q1 _ _ HB6.out HV16.out).mono ?_); rintro e w7 ⟨rfl, hb⟩; have HB7 := Lib.hid (HB6.out.trans (hb.mono HB6.out.size)); have HV37 := Lib.hid (HV36.out.on hb); clear hb Q1)
      | (go_at_call 16; (with_reducible refine (Q2 _ _ _ HB7.out HM3.out HV37.out).mono ?_); rintro e w8 ⟨rfl, hb⟩; have HB8 := Lib.hid (HB7.out.trans (hb.mono HB7.out.size)); clear hb Q2)
      | (go_at_call 8; refine (AW _ HB8.out).mono ?_; rintro e w9 ⟨rfl, hb⟩; have HB9 := Lib.hid (HB8.out.trans (hb.mono HB8.out.size)); clear hb))
    go_ret
    exact ⟨rfl, HB9.out⟩
  · generalize bsT (textI l) = TI at *
    generalize bsT (textF m) = TF at *
    clear hpl hwi hwf hci hcf hti htf hs1 hs2
    go_enter Tryz.func5, Tryz.ntmps5
    go_wp2_with (first
      | (go_at_call 13; (with_reducible refine (P1 _ HR.out).mono ?_); rintro e w1 ⟨v1, rfl, hv, hb⟩; have HV1 := Lib.hid hv; have HB1 := Lib.hid hb; clear hb hv P1)
      | (go_at_call 22; (with_reducible refine (P2 _).mono ?_); rintro e w2 ⟨v2, rfl, hv, hb⟩; have HV2 := Lib.hid hv; have HV12 := Lib.hid (HoldV.on HV1.out hb); have HB2 := Lib.hid (HB1.out.trans (hb.mono HB1.out.size)); clear hb hv P2)
      | (go_at_call 20; (with_reducible refine (P3 _ HB2.out).mono ?_); rintro e w3 ⟨v3, rfl, ⟨M3, hm, hv⟩, hb⟩; have HV3 := Lib.hid hv; have HM3 := Lib.hid hm; have HV13 := Lib.hid (HoldV.on HV12.out hb); have HV23 := Lib.hid (HoldV.on HV2.out hb); have HB3 := Lib.hid (HB2.out.trans (hb.mono HB2.out.size)); clear hb hv hm P3)
      | (go_at_call 23; (with_reducible refine (P4 _).mono ?_); rintro e w4 ⟨v4, rfl, ⟨M4, hm, hv⟩, hb⟩; have HV4 := Lib.hid hv; have HM4 := Lib.hid hm; have HV14 := Lib.hid (HoldV.on HV13.out hb); have HV24 := Lib.hid (HoldV.on HV23.out hb); have HV34 := Lib.hid (HV3.out.on hb); have HB4 := Lib.hid (HB3.out.trans (hb.mono HB3.out.size)); clear hb hv hm P4)
      | (go_at_call 14; (with_reducible refine (SI _ _ _ HV14.out HV24.out).mono ?_); rintro e w5 ⟨rfl, q, rfl⟩; have HB5 := Lib.hid (belowQ HB4.out q); have HV15 := Lib.hid (HoldV.on HV14.out (belowQ (Below.refl _ _) q)); have HV35 := Lib.hid (HV34.out.on (belowQ (Below.refl _ _) q)); have HV45 := Lib.hid (HV4.out.on (belowQ (Below.refl _ _) q)); clear SI)
      | (go_at_call 21; (with_reducible refine (SF _ _ _ _ _ HM3.out HM4.out HV35.out HV45.out).mono ?_); rintro e w6 ⟨rfl, hb⟩; have HB6 := Lib.hid (HB5.out.trans (hb.mono HB5.out.size)); have HV16 := Lib.hid (HoldV.on HV15.out hb); have HV36 := Lib.hid (HV35.out.on hb); clear hb SF)
      | (go_at_call 9; (with_reducible refine (Q1 _ _ HB6.out HV16.out).mono ?_); rintro e w7 ⟨rfl, hb⟩; have HB7 := Lib.hid (HB6.out.trans (hb.mono HB6.out.size)); have HV37 := Lib.hid (HV36.out.on hb); clear hb Q1)
      | (go_at_call 16; (with_reducible refine (Q2 _ _ _ HB7.out HM3.out HV37.out).mono ?_); rintro e w8 ⟨rfl, hb⟩; have HB8 := Lib.hid (HB7.out.trans (hb.mono HB7.out.size)); clear hb Q2)
      | (go_at_call 8; refine (AW _ HB8.out).mono ?_; rintro e w9 ⟨rfl, hb⟩; have HB9 := Lib.hid (HB8.out.trans (hb.mono HB8.out.size)); clear hb))
    go_ret
    exact ⟨rfl, HB9.out⟩
end Go.Proofs.YtceohgjfjndcmaaGreatDoor.trigsParsesw
