/-
  The walk of DivsPrints: for every list it returns true; nothing old turns. Condition: LaidP.
-/
import Derived.Test.YtgjnhnaccdmbjaaDoorDAwake
import Derived.Test.YtgjnhnaccdmbjaaDoorDRefPrint
import Derived.Test.YtgjnhnaccdmbjaaDoorDRefChk
namespace Go.Proofs.YtgjnhnaccdmbjaaDoor.divsPrintsw
open Go.RowKit
theorem rowT_few {x : Dv} (h : x.1.length ≤ 300 ∧ x.2.1.length ≤ 300 ∧ x.2.2.length ≤ 300) : (rowT x).length ≤ 904 := by
  have := byD_len x.2.2
  unfold rowT; simp only [List.length_append, List.length_cons, List.length_nil]; omega
theorem textD_few : ∀ {l : List Dv}, (∀ x ∈ l, x.1.length ≤ 300 ∧ x.2.1.length ≤ 300 ∧ x.2.2.length ≤ 300) → (textD l).length ≤ 904 * l.length
  | [], _ => by simp [textD]
  | x :: l, h => by
    have h1 := rowT_few (h x (by simp))
    have h2 := textD_few (l := l) (fun y hy => h y (by simp [hy]))
    unfold textD at *
    rw [List.flatMap_cons, List.length_append, List.length_cons]; omega
theorem lines_few {l : List Dv} (hf : FewD l) (hc : checkD l = 0) : ∀ p ∈ spl 10 (textD l), p.length ≤ 4000 := fun p hp => by
  obtain ⟨_, ho⟩ := checkD_zero hc
  rw [textD_ended, spl_ended _ (lines_10 ho.right), List.mem_append] at hp
  rcases hp with hp | hp
  · obtain ⟨x, hx, hp⟩ := List.mem_flatMap.1 hp
    have := hf.2 x hx
    have := byD_len x.2.2
    simp only [linesD, List.mem_cons, List.not_mem_nil, or_false] at hp
    rcases hp with rfl | rfl | rfl <;> omega
  · simp at hp; subst hp; simp
set_option maxRecDepth 100000 in
set_option maxHeartbeats 8000000 in
theorem walk (v : Value) (l : List Dv) (bl : l.length ≤ maxLen) (bs : ∀ x ∈ l, x.1.length ≤ maxLen ∧ x.2.1.length ≤ maxLen ∧ x.2.2.length ≤ maxLen) (w : World) (h : HoldD w v l) (hL : LaidP w) :
    Calls Tryd.prog 3 #[v] w fun e' w' => e' = .returned (.bool true) ∧ Below w.heap.size w w' := by
  have AW := fun W (hb : Below w.heap.size w W) => awake9 W (hL.on hb)
  have FE := few_any v l w bl bs h
  unfold FewPost at FE
  have HR := Lib.hid (Below.refl w.heap.size w)
  have HH := Lib.hid h
  have hL0 := Lib.hid hL
  obtain ⟨a, c, b, o, rfl, -, -, -⟩ := h.parts
  clear h hL bl bs
  by_cases hf : FewD l
  case neg =>
    rw [fewB_no hf] at FE
    clear hf
    generalize l.length = n at *
    go_enter Tryd.func3, Tryd.ntmps3
    go_wp2_with (first
          | (go_at_call 8; refine FE.mono ?_; rintro e w1 ⟨rfl, rfl⟩)
          | (go_at_call 9; refine (AW _ HR.out).mono ?_; rintro e w2 ⟨rfl, hb⟩))
    go_ret
    exact ⟨rfl, hb⟩
  rw [fewB_yes hf] at FE
  have hln := hf.1
  have hsm := hf.small
  have P1 := fun W (hb : Below w.heap.size w W) => print9_any _ l (by omega) hsm W (hL0.out.on hb) (HoldR.on HH.out hb)
  have P2 := fun W (hb : Below w.heap.size w W) => print9_ref _ l (by omega) hsm W (HoldR.on HH.out hb)
  have C1 := fun W (hb : Below w.heap.size w W) => check9_any _ l (by omega) hsm W (hL0.out.on hb) (HoldR.on HH.out hb)
  have C2 := fun W (hb : Below w.heap.size w W) => check9_ref _ l (by omega) hsm W (HoldR.on HH.out hb)
  unfold PrPost at P1 P2
  unfold ChkPost at C1 C2
  by_cases hz : checkD l = 0
  case neg =>
    have hzz : checkD l = 22 ∨ checkD l = 1 := by rcases checkD_ways l with g | g | g <;> omega
    rw [printD_no hz] at P1 P2
    dsimp only at P1 P2
    have e1 := eqT (bsA []) (bsA [])
    rw [decide_eq_true rfl] at e1
    generalize bsA [] = T at *
    rcases hzz with hz' | hz'
    · rw [hz'] at P1 P2 C1 C2
      clear HH hf hz hsm hz'
      generalize l.length = n at *
      go_enter Tryd.func3, Tryd.ntmps3
      go_wp2_with (first
        | (go_at_call 8; refine FE.mono ?_; rintro e w1 ⟨rfl, rfl⟩)
        | (go_at_call 10; (with_reducible refine (P1 _ HR.out).mono ?_); rintro e w2 ⟨rfl, hb⟩; have HB2 := Lib.hid hb; clear hb P1)
        | (go_at_call 11; (with_reducible refine (P2 _ HB2.out).mono ?_); rintro e w3 ⟨rfl, hb⟩; have HB3 := Lib.hid (HB2.out.trans (hb.mono HB2.out.size)); clear hb P2)
        | (go_at_call 12; (with_reducible refine (C1 _ HB3.out).mono ?_); rintro e w4 ⟨rfl, hb⟩; have HB4 := Lib.hid (HB3.out.trans (hb.mono HB3.out.size)); clear hb C1)
        | (go_at_call 13; (with_reducible refine (C2 _ HB4.out).mono ?_); rintro e w5 ⟨rfl, hb⟩; have HB5 := Lib.hid (HB4.out.trans (hb.mono HB4.out.size)); clear hb C2)
        | (go_at_call 9; refine (AW _ HB5.out).mono ?_; rintro e w9 ⟨rfl, hb⟩; have HB9 := Lib.hid (HB5.out.trans (hb.mono HB5.out.size)); clear hb))
      go_ret
      exact ⟨rfl, HB9.out⟩
    · rw [hz'] at P1 P2 C1 C2
      clear HH hf hz hsm hz'
      generalize l.length = n at *
      go_enter Tryd.func3, Tryd.ntmps3
      go_wp2_with (first
        | (go_at_call 8; refine FE.mono ?_; rintro e w1 ⟨rfl, rfl⟩)
        | (go_at_call 10; (with_reducible refine (P1 _ HR.out).mono ?_); rintro e w2 ⟨rfl, hb⟩; have HB2 := Lib.hid hb; clear hb P1)
        | (go_at_call 11; (with_reducible refine (P2 _ HB2.out).mono ?_); rintro e w3 ⟨rfl, hb⟩; have HB3 := Lib.hid (HB2.out.trans (hb.mono HB2.out.size)); clear hb P2)
        | (go_at_call 12; (with_reducible refine (C1 _ HB3.out).mono ?_); rintro e w4 ⟨rfl, hb⟩; have HB4 := Lib.hid (HB3.out.trans (hb.mono HB3.out.size)); clear hb C1)
        | (go_at_call 13; (with_reducible refine (C2 _ HB4.out).mono ?_); rintro e w5 ⟨rfl, hb⟩; have HB5 := Lib.hid (HB4.out.trans (hb.mono HB4.out.size)); clear hb C2)
        | (go_at_call 9; refine (AW _ HB5.out).mono ?_; rintro e w9 ⟨rfl, hb⟩; have HB9 := Lib.hid (HB5.out.trans (hb.mono HB5.out.size)); clear hb))
      go_ret
      exact ⟨rfl, HB9.out⟩
  rw [printD_ok hz] at P1 P2
  dsimp only at P1 P2
  rw [hz] at C1 C2
  have PA := fun W (hb : Below w.heap.size w W) => parse9_any (bsA (textD l)) (by have := textD_few hf.2; rw [sizeOf, bytesOf]; omega) (by rw [bytesOf]; exact lines_few hf hz) W (hL0.out.on hb)
  have HPA : Hid (∀ v z (w' : World), (∀ l', parseD (bsA (textD l)).data.toList = some l' → z = (0 : Int) ∧ HoldD w' v l') → z = 0 ∧ HoldD w' v l) := Lib.hid (fun v z w' h => h _ (by rw [bytesOf]; exact parse_textD hz))
  have SA := fun u W (h1 : HoldD W u l) (h2 : HoldD W (.slice a l.length c) l) => same_ref9 u _ l (by omega) W h1 h2
  have e1 := eqT (bsA (textD l)) (bsA (textD l))
  rw [decide_eq_true rfl] at e1
  generalize bsA (textD l) = T at *
  clear hf hz hsm
  generalize l.length = n at *
  go_enter Tryd.func3, Tryd.ntmps3
  go_wp2_with (first
    | (go_at_call 8; refine FE.mono ?_; rintro e w1 ⟨rfl, rfl⟩)
    | (go_at_call 10; (with_reducible refine (P1 _ HR.out).mono ?_); rintro e w2 ⟨rfl, hb⟩; have HB2 := Lib.hid hb; clear hb P1)
    | (go_at_call 11; (with_reducible refine (P2 _ HB2.out).mono ?_); rintro e w3 ⟨rfl, hb⟩; have HB3 := Lib.hid (HB2.out.trans (hb.mono HB2.out.size)); clear hb P2)
    | (go_at_call 12; (with_reducible refine (C1 _ HB3.out).mono ?_); rintro e w4 ⟨rfl, hb⟩; have HB4 := Lib.hid (HB3.out.trans (hb.mono HB3.out.size)); clear hb C1)
    | (go_at_call 13; (with_reducible refine (C2 _ HB4.out).mono ?_); rintro e w5 ⟨rfl, hb⟩; have HB5 := Lib.hid (HB4.out.trans (hb.mono HB4.out.size)); clear hb C2)
    | (go_at_call 14; (with_reducible refine (PA _ HB5.out).mono ?_); rintro e w6 ⟨v6, z6, rfl, hp, -, hb⟩; obtain ⟨rfl, hv6⟩ := HPA.out _ _ _ hp; have HV6 := Lib.hid hv6; have HB6 := Lib.hid (HB5.out.trans (hb.mono HB5.out.size)); clear hb hp hv6 PA)
    | (go_at_call 15; (with_reducible refine (SA _ _ HV6.out (HoldR.on HH.out HB6.out)).mono ?_); rintro e w7 ⟨rfl, q, rfl⟩; have HB7 := Lib.hid (belowQ HB6.out q); clear SA)
    | (go_at_call 9; refine (AW _ HB7.out).mono ?_; rintro e w9 ⟨rfl, hb⟩; have HB9 := Lib.hid (HB7.out.trans (hb.mono HB7.out.size)); clear hb))
  go_ret
  exact ⟨rfl, HB9.out⟩
end Go.Proofs.YtgjnhnaccdmbjaaDoor.divsPrintsw
