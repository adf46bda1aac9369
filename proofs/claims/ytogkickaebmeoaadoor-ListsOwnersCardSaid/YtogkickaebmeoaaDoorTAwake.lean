/-
  cellarerlaw13's awake: it returns true; nothing old turns. Condition: LaidP.
-/
import Derived.Test.YtogkickaebmeoaaDoorTOwners2
import Derived.Test.YtogkickaebmeoaaDoorTRefParse
namespace Go.Proofs.YtogkickaebmeoaaDoor
open Go.RowKit
def exP : List Bs := [[47, 98]]
theorem exP_steps : StepsP exP := fun i x hx => by
  match i, hx with
  | 0, hx => simp [exP] at hx; subst hx; exact ⟨by decide +kernel, fun y h => by omega⟩
theorem ex_right : right13 ([97], exP) = true := by
  unfold right13
  rw [show chkP exP = 0 from chkP_ok (by decide) exP_steps]
  decide
theorem ex_print : print13 ([97], exP) = ([47, 98, 10], 0) := print13_ok ex_right
theorem ex_parse : parse13 [97] [47, 98, 10] = some ([97], exP) := parse_text13 (x := ([97], exP)) ex_right
theorem hold1T (W : World) : HoldT (W.alloc (.cells #[.string ⟨#[47, 98]⟩] 9)) (.slice (some ⟨W.heap.size, 0, none⟩) 1 1) exP := by
  refine ⟨some ⟨W.heap.size, 0, none⟩, 1, W.heap.size, 0, rfl, Nat.le_refl _, fun _ => ⟨rfl, by simp⟩, fun j l hj => ?_⟩
  match j, hj with
  | 0, hj =>
    simp [exP] at hj
    subst hj
    rw [cellRow _ W.heap.size 0 _ 9 (0, 0) (heap_alloc_new W _)]
    rfl
theorem hold1L {W : World} {b : Nat} {p : Lp} (h0 : W.cell? ⟨b, 0, none⟩ = some (.string (bsT p.1.1))) (h1 : W.cell? ⟨b, 1, none⟩ = some p.2) (h : HoldT W p.2 p.1.2) : HoldL W (.slice (some ⟨b, 0, none⟩) 1 1) [p] := by
  refine ⟨fun q hq => by simp at hq; subst hq; exact h, some ⟨b, 0, none⟩, 1, b, 0, rfl, Nat.le_refl _, fun _ => ⟨rfl, World.block_lt_of_cell? W _ h0⟩, fun j q hj => ?_⟩
  match j, hj with
  | 0, hj => simp at hj; subst hj; exact ⟨by simpa using h0, by simpa using h1⟩
theorem smallExP : SmallP exP := fun x hx => by simp [exP] at hx; subst hx; decide
set_option maxRecDepth 100000 in
set_option maxHeartbeats 8000000 in
theorem awake13 (w : World) (hL : LaidP w) : Calls Tryd.prog 9 #[] w fun e w' => e = .returned (.bool true) ∧ Below w.heap.size w w' := by
  have B0 := (Below.refl w.heap.size w).alloc (Nat.le_refl _) (.cells #[.string ⟨#[47, 98]⟩] 9)
  have HB0 := Lib.hid B0
  have HL := Lib.hid hL
  have PR := print13_any ⟨#[97]⟩ (by decide) _ exP (by decide) smallExP _ (hL.on B0) (hold1T w)
  have PA := fun W (hb : Below w.heap.size w W) => parse13_any ⟨#[97]⟩ (by decide) ⟨#[47, 98, 10]⟩ (by decide) (by decide +kernel) W (hL.on hb)
  have HPA : Hid (∀ (N : ByteArray) v z (w' : World), (∀ x, parse13 [97] [47, 98, 10] = some x → z = (0 : Int) ∧ N.data.toList = x.1 ∧ HoldT w' v x.2) → z = 0 ∧ N = ⟨#[97]⟩ ∧ HoldT w' v exP) := Lib.hid (fun N v z w' h => by
    obtain ⟨h1, h2, h3⟩ := h _ ex_parse
    exact ⟨h1, strOf h2, h3⟩)
  have OW := fun (v : Value) (u : Value) W (h : HoldL W v [(([97], exP), u)]) => owners_any v [(([97], exP), u)] (by simp) (fun q hq => by simp at hq; subst hq; exact ⟨by simp, by simp [exP]⟩) ⟨#[47, 98]⟩ W h
  have RI := fun u W (hb : Below w.heap.size w W) (h : HoldT W u exP) => right13_any ⟨#[97]⟩ (by decide) u exP (by decide) smallExP W (hL.on hb) h
  unfold Pr13 at PR
  rw [show print13 ((ByteArray.mk #[97]).data.toList, exP) = ([47, 98, 10], 0) from ex_print] at PR
  unfold Pa13 at PA
  unfold OwPost at OW
  have HON : Hid (∀ (u : Value) (W : World) (b : Nat) (v : Value), OwnT W b v (ownN [(([97], exP), u)] (ByteArray.mk #[47, 98]).data.toList) → ∃ a c, v = .slice a 1 c) := Lib.hid (fun u W b v h => by
    obtain ⟨a, c, b', o, e, _⟩ := h.holds
    refine ⟨a, c, ?_⟩
    rw [e]
    have : (ownN [(([97], exP), u)] (ByteArray.mk #[47, 98]).data.toList).length = 1 := by simp [ownN, exP]
    rw [this])
  have HEX : Hid (right13 ((ByteArray.mk #[97]).data.toList, exP) = true) := Lib.hid ex_right
  rw [HEX.out] at RI
  clear B0 hL
  go_enter Tryd.func9, Tryd.ntmps9
  go_wp2_with (first
    | (go_at_call 10; (with_reducible refine PR.mono ?_); rintro e w1 ⟨rfl, hb⟩; have HB1 := Lib.hid (HB0.out.trans (hb.mono HB0.out.size)); clear hb PR)
    | (go_at_call 16; (with_reducible refine (PA _ HB1.out).mono ?_); rintro e w2 ⟨N2, v2, z2, rfl, hp, -, hb⟩; obtain ⟨rfl, rfl, hv2⟩ := HPA.out _ _ _ _ hp; obtain ⟨va, vc, rfl⟩ : ∃ a c, v2 = .slice a 1 c := (by obtain ⟨a, c, b, o, e, _⟩ := hv2; exact ⟨a, c, e⟩); have HB2 := Lib.hid (HB1.out.trans (hb.mono HB1.out.size)); have HB3 := Lib.hid (HB2.out.alloc HB2.out.size (.cells #[.string ⟨#[97]⟩, .slice va 1 vc] 24)); have HT3 := Lib.hid (hv2.on ((Below.refl w2.heap.size w2).alloc (Nat.le_refl _) (.cells #[.string ⟨#[97]⟩, .slice va 1 vc] 24))); obtain ⟨x0, x1⟩ := box2 w2 (.string ⟨#[97]⟩) (.slice va 1 vc) 24; have hA3 := (Below.refl (w2.alloc (.cells #[.string ⟨#[97]⟩, .slice va 1 vc] 24)).heap.size (w2.alloc (.cells #[.string ⟨#[97]⟩, .slice va 1 vc] 24))).alloc (Nat.le_refl _) (.cells #[.string ⟨#[97]⟩, .slice va 1 vc] 24); have HX4 := Lib.hid (Box2.on (Box2.new w2 (.string ⟨#[97]⟩) (.slice va 1 vc) 24) hA3); have HB4 := Lib.hid (HB3.out.alloc HB3.out.size (.cells #[.string ⟨#[97]⟩, .slice va 1 vc] 24)); have HT4 := Lib.hid (HT3.out.on hA3); have hb2 := box2 (w2.alloc (.cells #[.string ⟨#[97]⟩, .slice va 1 vc] 24)) (.string ⟨#[97]⟩) (.slice va 1 vc) 24; rw [World.size_alloc] at hb2; have OW4 := OW _ (.slice va 1 vc) _ (hold1L (p := (([97], exP), .slice va 1 vc)) hb2.1 hb2.2 HT4.out); clear hb hp hv2 PA hb2 OW hA3)
    | (go_at_call 27; (with_reducible refine OW4.mono ?_); rintro e w5 ⟨v5, rfl, h5, hb⟩; obtain ⟨a5, c5, rfl⟩ := HON.out _ _ _ _ h5; have HB5 := Lib.hid (HB4.out.trans (hb.mono HB4.out.size)); have HT5 := Lib.hid (HT4.out.on hb); obtain ⟨y0, y1, -⟩ := HX4.out.on hb; clear hb h5 OW4)
    | (go_at_call 12; (with_reducible refine (RI _ _ HB5.out HT5.out).mono ?_); rintro e w6 ⟨rfl, hb⟩; have HB6 := Lib.hid (HB5.out.trans (hb.mono HB5.out.size)); clear hb RI))
  go_ret
  exact ⟨rfl, HB6.out⟩
end Go.Proofs.YtogkickaebmeoaaDoor
