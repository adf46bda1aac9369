/-
  The walk of DivsParses: for every text it returns true; nothing old turns. Condition: LaidP.
-/
import Derived.Test.YtgjnhnaccdmbjaaDoorDAwake
import Derived.Test.YtgjnhnaccdmbjaaDoorDRefParse
namespace Go.Proofs.YtgjnhnaccdmbjaaDoor.divsParsesw
open Go.RowKit
theorem pieces_len (s : Bs) (h : s.length ≤ 3000) : ∀ p ∈ spl 10 s, p.length ≤ 4000 := fun p hp => by
  have := spl_piece 10 s p hp; omega
theorem small_parse {s : Bs} {l : List Dv} (h : parseD s = some l) (hs : s.length ≤ 3000) (hp : ∀ p ∈ spl 10 s, p.length ≤ 4000) : l.length ≤ 90000 ∧ SmallD l := by
  cases hl : linesO s with
  | none => rw [parseD_none hl] at h; cases h
  | some ls =>
    rw [parseD_some hl] at h
    obtain ⟨h1, h2⟩ := lines_len hl
    split at h
    · cases h
      exact ⟨Nat.le_trans (read_len _ ls (Nat.le_refl _)) (by omega), read_sizes 4000 _ ls (Nat.le_refl _) (fun p hm => hp p (h2 p hm))⟩
    · cases h
set_option maxRecDepth 100000 in
set_option maxHeartbeats 8000000 in
theorem walk (s : ByteArray) (bs : s.size ≤ 9223372036854775807) (w : World) (hL : LaidP w) :
    Calls Tryd.prog 4 #[.string s] w fun e' w' => e' = .returned (.bool true) ∧ Below w.heap.size w w' := by
  have AW := fun W (hb : Below w.heap.size w W) => awake9 W (hL.on hb)
  have HR := Lib.hid (Below.refl w.heap.size w)
  have hL0 := Lib.hid hL
  clear hL
  by_cases hs : 3000 < s.size
  · go_enter Tryd.func4, Tryd.ntmps4
    go_wp2_with (go_at_call 9; refine (AW _ HR.out).mono ?_; rintro e w2 ⟨rfl, hb⟩)
    go_ret
    exact ⟨rfl, hb⟩
  have hpl : ∀ p ∈ spl 10 s.data.toList, p.length ≤ 4000 := pieces_len _ (by rw [← sizeOf]; omega)
  have PA := fun W (hb : Below w.heap.size w W) => parse9_any s (by omega) hpl W (hL0.out.on hb)
  have PR := fun W => parse9_ref s (by omega) hpl W
  cases hp : parseD s.data.toList with
  | none =>
    have HPA : Hid (∀ z v, (parseD s.data.toList = none → z = (2 : Int) ∧ v = Value.slice none 0 0) → z = 2 ∧ v = .slice none 0 0) := Lib.hid (fun z v h => h hp)
    have HPR : Hid (∀ b, (parseD s.data.toList = none → b = false) → b = false) := Lib.hid (fun b h => h hp)
    clear hpl hp
    go_enter Tryd.func4, Tryd.ntmps4
    go_wp2_with (first
      | (go_at_call 14; (with_reducible refine (PA _ HR.out).mono ?_); rintro e w1 ⟨v1, z1, rfl, -, hp, hb⟩; obtain ⟨rfl, rfl⟩ := HPA.out _ _ hp; have HB1 := Lib.hid hb; clear hb hp PA)
      | (go_at_call 16; (with_reducible refine (PR _).mono ?_); rintro e w2 ⟨v2, b2, rfl, -, hp, hb⟩; obtain rfl := HPR.out _ hp; have HB2 := Lib.hid (HB1.out.trans (hb.mono HB1.out.size)); clear hb hp PR)
      | (go_at_call 9; refine (AW _ HB2.out).mono ?_; rintro e w9 ⟨rfl, hb⟩; have HB9 := Lib.hid (HB2.out.trans (hb.mono HB2.out.size)); clear hb))
    go_ret
    exact ⟨rfl, HB9.out⟩
  | some l =>
    have HPA : Hid (∀ z v (w' : World), (∀ l', parseD s.data.toList = some l' → z = (0 : Int) ∧ HoldD w' v l') → z = 0 ∧ HoldD w' v l) := Lib.hid (fun z v w' h => h l hp)
    have HPR : Hid (∀ b v (w' : World), (∀ l', parseD s.data.toList = some l' → b = true ∧ HoldD w' v l') → b = true ∧ HoldD w' v l) := Lib.hid (fun b v w' h => h l hp)
    obtain ⟨ht, hc⟩ := text_parseD hp
    have hsz : l.length ≤ 90000 ∧ SmallD l := small_parse hp (by rw [← sizeOf]; omega) hpl
    have SA := fun u v W (h1 : HoldD W u l) (h2 : HoldD W v l) => same_ref9 u v l hsz.1 W h1 h2
    have PT := fun v W (hb : Below w.heap.size w W) (h : HoldD W v l) => print9_any v l hsz.1 hsz.2 W (hL0.out.on hb) h
    unfold PrPost at PT
    rw [printD_ok hc, ht] at PT
    dsimp only at PT
    rw [show bsA s.data.toList = s from (strOf rfl).symm] at PT
    have e1 := eqT s s
    rw [decide_eq_true rfl] at e1
    clear hpl hp ht hc hsz
    go_enter Tryd.func4, Tryd.ntmps4
    go_wp2_with (first
      | (go_at_call 14; (with_reducible refine (PA _ HR.out).mono ?_); rintro e w1 ⟨v1, z1, rfl, hp, -, hb⟩; obtain ⟨rfl, hv⟩ := HPA.out _ _ _ hp; have HV1 := Lib.hid hv; have HB1 := Lib.hid hb; clear hb hp hv PA)
      | (go_at_call 16; (with_reducible refine (PR _).mono ?_); rintro e w2 ⟨v2, b2, rfl, hp, -, hb⟩; obtain ⟨rfl, hv⟩ := HPR.out _ _ _ hp; have HV2 := Lib.hid hv; have HV3 := Lib.hid (HoldR.on HV1.out hb); have HB2 := Lib.hid (HB1.out.trans (hb.mono HB1.out.size)); clear hb hp hv PR)
      | (go_at_call 15; (with_reducible refine (SA _ _ _ HV3.out HV2.out).mono ?_); rintro e w3 ⟨rfl, q, rfl⟩; have HB3 := Lib.hid (belowQ HB2.out q); have HV4 := Lib.hid (HoldR.on HV3.out (belowQ (Below.refl _ _) q)); clear SA)
      | (go_at_call 10; (with_reducible refine (PT _ _ HB3.out HV4.out).mono ?_); rintro e w4 ⟨rfl, hb⟩; have HB4 := Lib.hid (HB3.out.trans (hb.mono HB3.out.size)); clear hb PT)
      | (go_at_call 9; refine (AW _ HB4.out).mono ?_; rintro e w9 ⟨rfl, hb⟩; have HB9 := Lib.hid (HB4.out.trans (hb.mono HB4.out.size)); clear hb))
    go_ret
    exact ⟨rfl, HB9.out⟩
end Go.Proofs.YtgjnhnaccdmbjaaDoor.divsParsesw
