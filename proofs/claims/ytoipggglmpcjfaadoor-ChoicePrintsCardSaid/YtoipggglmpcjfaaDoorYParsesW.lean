/-
  The walk of ChoiceParses: for every text it returns true; nothing old turns. Condition: LaidP.
-/
import Derived.Test.YtoipggglmpcjfaaDoorYFew
import Derived.Test.YtoipggglmpcjfaaDoorYRefParse
namespace Go.Proofs.YtoipggglmpcjfaaDoor.choiceParsesw
open Go.RowKit
theorem pieces_len (s : Bs) (h : s.length ≤ 3000) : ∀ p ∈ spl 10 s, p.length ≤ 4000 := fun p hp => by
  have := spl_piece 10 s p hp; omega
theorem small_chkY {l : List Sl} (h : chkY l = 0) : l.length ≤ 90000 ∧ SmallY l := by
  obtain ⟨h1, h2⟩ := chkY_zero h
  refine ⟨by omega, fun x hx => ?_⟩
  obtain ⟨h3, h4⟩ := rightY_parts (h2 x hx)
  have h5 := name_60 h3
  have h6 := (right_parts h4).2.2.2.2
  omega
theorem form_of {W : World} {v : Value} {l : List Sl} (h : HoldY W v l) : ∃ a c, v = .slice a l.length c := by
  obtain ⟨a, c, _, _, e, _⟩ := h.parts; exact ⟨a, c, e⟩
set_option maxRecDepth 100000 in
set_option maxHeartbeats 8000000 in
theorem walk (s : ByteArray) (bs : s.size ≤ 9223372036854775807) (w : World) (hL : LaidP w) :
    Calls Tryd.prog 4 #[.string s] w fun e' w' => e' = .returned (.bool true) ∧ Below w.heap.size w w' := by
  have AW := fun W (hb : Below w.heap.size w W) => awake30 W (hL.on hb)
  have HR := Lib.hid (Below.refl w.heap.size w)
  have hL0 := Lib.hid hL
  clear hL
  by_cases hs : 3000 < s.size
  · go_enter Tryd.func4, Tryd.ntmps4
    go_wp2_with (go_at_call 7; refine (AW _ HR.out).mono ?_; rintro e w2 ⟨rfl, hb⟩)
    go_ret
    exact ⟨rfl, hb⟩
  have hpl : ∀ p ∈ spl 10 s.data.toList, p.length ≤ 4000 := pieces_len _ (by rw [← sizeOf]; omega)
  have P1 := parseY_any s (by omega) hpl w hL0.out
  have P2 := fun W => parseY_refd s (by omega) hpl W
  unfold PaPostY at P1
  unfold RPaPostY at P2
  have e1 := eqT s s
  rw [decide_eq_true rfl] at e1
  cases hp : parseY s.data.toList with
  | none =>
    have Q1 : Calls Tryd.prog 14 #[.string s] w fun e w' => e = .returned (.tuple #[.slice none 0 0, .int .i64 2]) ∧ Below w.heap.size w w' := P1.mono fun e w' ⟨v, z, he, _, h2, hb⟩ => ⟨by rw [he, (h2 hp).1, (h2 hp).2], hb⟩
    have Q2 : ∀ W, Calls Tryd.prog 15 #[.string s] W fun e w' => e = .returned (.tuple #[.slice none 0 0, .bool false]) ∧ Below W.heap.size W w' := fun W => (P2 W).mono fun e w' ⟨v, z, he, _, h2, hb⟩ => ⟨by rw [he, (h2 hp).1, (h2 hp).2], hb⟩
    have Q4 := fun W => told_any (.slice none 0 0) [] (by simp) W (HoldV.nil 3 W)
    have SA := fun u W (h1 : HoldY W u []) => sameY_ref u (.slice none 0 0) [] (by simp) W h1 (HoldV.nil 3 W)
    have Q3 : ∀ W, Below w.heap.size w W → Calls Tryd.prog 8 #[.slice none 0 0] W fun e w' => e = .returned (.tuple #[.string ⟨#[]⟩, .int .i64 0]) ∧ Below W.heap.size W w' := fun W hb => by
      have := printY_any (.slice none 0 0) [] (by simp) (fun x hx => by simp at hx) W (hL0.out.on hb) (HoldV.nil 3 W)
      unfold PrPostY at this
      exact this
    clear P1 P2 hp hpl e1
    go_enter Tryd.func4, Tryd.ntmps4
    go_wp2_with (first
      | (go_at_call 14; (with_reducible refine Q1.mono ?_); rintro e w1 ⟨rfl, hb⟩; have HB1 := Lib.hid hb; clear hb Q1)
      | (go_at_call 15; (with_reducible refine (Q2 _).mono ?_); rintro e w2 ⟨rfl, hb⟩; have HB2 := Lib.hid (HB1.out.trans (hb.mono HB1.out.size)); clear hb Q2)
      | (go_at_call 10; (with_reducible refine (Q4 _).mono ?_); rintro e w3 ⟨v3, rfl, hv, hb⟩; have HV3 := Lib.hid hv; have HB3 := Lib.hid (HB2.out.trans (hb.mono HB2.out.size)); clear hb hv Q4)
      | (go_at_call 11; (with_reducible refine (SA _ _ HV3.out).mono ?_); rintro e w5 ⟨rfl, q, rfl⟩; have HB5 := Lib.hid (belowQ HB3.out q); clear SA)
      | (go_at_call 8; (with_reducible refine (Q3 _ HB5.out).mono ?_); rintro e w7 ⟨rfl, hb⟩; have HB7 := Lib.hid (HB5.out.trans (hb.mono HB5.out.size)); clear hb Q3)
      | (go_at_call 7; refine (AW _ HB7.out).mono ?_; rintro e w9 ⟨rfl, hb⟩; have HB9 := Lib.hid (HB7.out.trans (hb.mono HB7.out.size)); clear hb))
    go_ret
    exact ⟨rfl, HB9.out⟩
  | some l =>
    obtain ⟨hpr, hck, htx⟩ := text_parseY hp
    obtain ⟨hs1, hs2⟩ := small_chkY hck
    have Q1 : Calls Tryd.prog 14 #[.string s] w fun e w' => ∃ a c, e = .returned (.tuple #[.slice a l.length c, .int .i64 0]) ∧ HoldY w' (.slice a l.length c) l ∧ Below w.heap.size w w' := P1.mono fun e w' ⟨v, z, he, h1, _, hb⟩ => by
      obtain ⟨rfl, hh⟩ := h1 l hp
      obtain ⟨a, c, rfl⟩ := form_of hh
      exact ⟨a, c, he, hh, hb⟩
    have Q2 : ∀ W, Calls Tryd.prog 15 #[.string s] W fun e w' => ∃ v, e = .returned (.tuple #[v, .bool true]) ∧ HoldY w' v l ∧ Below W.heap.size W w' := fun W => (P2 W).mono fun e w' ⟨v, z, he, h1, _, hb⟩ => ⟨v, by rw [he, (h1 l hp).1], (h1 l hp).2, hb⟩
    have Q3 := fun v W (hb : Below w.heap.size w W) (h : HoldY W v l) => printY_any v l hs1 hs2 W (hL0.out.on hb) h
    unfold PrPostY at Q3
    rw [hpr] at Q3
    dsimp only at Q3
    rw [show bsT s.data.toList = s from (strOf (x := s) rfl).symm] at Q3
    have Q4 := fun v W (h : HoldY W v l) => told_any v l hs1 W h
    have SA := fun u v W (h1 : HoldY W u l) (h2 : HoldY W v l) => sameY_ref u v l hs1 W h1 h2
    clear P1 P2 hp hpl hpr hck htx hs1 hs2
    generalize l.length = n at *
    go_enter Tryd.func4, Tryd.ntmps4
    go_wp2_with (first
      | (go_at_call 14; (with_reducible refine Q1.mono ?_); rintro e w1 ⟨a, c, rfl, hv, hb⟩; have HV1 := Lib.hid hv; have HB1 := Lib.hid hb; clear hb hv Q1)
      | (go_at_call 15; (with_reducible refine (Q2 _).mono ?_); rintro e w2 ⟨v2, rfl, hv, hb⟩; have HV2 := Lib.hid hv; have HV12 := Lib.hid (HoldV.on HV1.out hb); have HB2 := Lib.hid (HB1.out.trans (hb.mono HB1.out.size)); clear hb hv Q2)
      | (go_at_call 10; (with_reducible refine (Q4 _ _ HV12.out).mono ?_); rintro e w3 ⟨v3, rfl, hv, hb⟩; have HV3 := Lib.hid hv; have HV23 := Lib.hid (HoldV.on HV2.out hb); have HV13 := Lib.hid (HoldV.on HV12.out hb); have HB3 := Lib.hid (HB2.out.trans (hb.mono HB2.out.size)); clear hb hv Q4)
      | (go_at_call 11; (with_reducible refine (SA _ _ _ HV3.out HV23.out).mono ?_); rintro e w5 ⟨rfl, q, rfl⟩; have HB5 := Lib.hid (belowQ HB3.out q); have HV15 := Lib.hid (HoldV.on HV13.out (belowQ (Below.refl _ _) q)); clear SA)
      | (go_at_call 8; (with_reducible refine (Q3 _ _ HB5.out HV15.out).mono ?_); rintro e w7 ⟨rfl, hb⟩; have HB7 := Lib.hid (HB5.out.trans (hb.mono HB5.out.size)); clear hb Q3)
      | (go_at_call 7; refine (AW _ HB7.out).mono ?_; rintro e w9 ⟨rfl, hb⟩; have HB9 := Lib.hid (HB7.out.trans (hb.mono HB7.out.size)); clear hb))
    go_ret
    exact ⟨rfl, HB9.out⟩
end Go.Proofs.YtoipggglmpcjfaaDoor.choiceParsesw
