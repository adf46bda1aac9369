/-
  The walk of OversPrints: for every list it returns true; nothing old turns. Condition: LaidO.
-/
import Derived.Test.YtmjfbpiodamamaaGreatDoorOAwake
import Derived.Test.YtmjfbpiodamamaaGreatDoorORefPrint
import Derived.Test.YtmjfbpiodamamaaGreatDoorOFew
import Derived.Test.YtmjfbpiodamamaaGreatDoorOOpen
namespace Go.Proofs.YtmjfbpiodamamaaGreatDoor.oversPrintsw
open Go.RowKit
theorem lines_few {l : List Ov} (hc : chkO l = 0) : ∀ p ∈ spl 10 (textO l), p.length ≤ 4000 := fun p hp => by
  obtain ⟨_, ho⟩ := chkO_zero hc
  unfold textO at hp
  rw [spl_ended _ (fun p hp => by obtain ⟨x, hx, rfl⟩ := List.mem_map.1 hp; exact lineO_not (ho.right x hx)), List.mem_append] at hp
  rcases hp with hp | hp
  · obtain ⟨x, hx, rfl⟩ := List.mem_map.1 hp
    have := lineO_len (ho.right x hx); omega
  · simp at hp; subst hp; simp
set_option maxRecDepth 100000 in
set_option maxHeartbeats 8000000 in
theorem walk (v : Value) (l : List Ov) (bl : l.length ≤ maxLen) (bs : ∀ x ∈ l, FitO x) (w : World) (h : HoldO w v l) (hL : LaidO w) :
    Calls Tryz.prog 3 #[v] w fun e' w' => e' = .returned (.bool true) ∧ Below w.heap.size w w' := by
  have AW := fun W (hb : Below w.heap.size w W) => awake10 W (hL.on hb).p (hL.on hb).e
  have FE := fewO_any v l w bl (fun x hx => (bs x hx).1) h
  unfold FewPostO at FE
  have HR := Lib.hid (Below.refl w.heap.size w)
  have HH := Lib.hid h
  have hL0 := Lib.hid hL
  obtain ⟨a, c, b, o, rfl, -, -, -⟩ := h.parts
  clear h hL bl bs
  by_cases hf : FewO l
  case neg =>
    rw [fewO_no hf] at FE
    clear hf
    generalize l.length = n at *
    go_enter Tryz.func3, Tryz.ntmps3
    go_wp2_with (first
          | (go_at_call 7; refine FE.mono ?_; rintro e w1 ⟨rfl, rfl⟩)
          | (go_at_call 8; refine (AW _ HR.out).mono ?_; rintro e w2 ⟨rfl, hb⟩))
    go_ret
    exact ⟨rfl, hb⟩
  rw [fewO_yes hf] at FE
  have hln := hf.1
  have hsm : SmallO l := fun x hx => by have := hf.2 x hx; omega
  have P1 := fun W (hb : Below w.heap.size w W) => printO_any _ l (by omega) hsm W (hL0.out.on hb).p (hL0.out.on hb).e.laid (HoldV.on HH.out hb)
  have P2 := fun W (hb : Below w.heap.size w W) => printO_ref _ l (by omega) hsm W (HoldV.on HH.out hb)
  have C1 := fun W (hb : Below w.heap.size w W) => checkO_any _ l (by omega) hsm W (hL0.out.on hb).p (HoldV.on HH.out hb)
  have C2 := fun W (hb : Below w.heap.size w W) => checkO_ref _ l (by omega) hsm W (HoldV.on HH.out hb)
  unfold PrPostO at P1 P2
  by_cases hz : chkO l = 0
  case neg =>
    have hzz : chkO l = 22 ∨ chkO l = 1 := by rcases chkO_ways l with g | g | g <;> omega
    rw [printO_no hz] at P1 P2
    dsimp only at P1 P2
    have e1 := eqT (bsT []) (bsT [])
    rw [decide_eq_true rfl] at e1
    generalize bsT [] = T at *
    rcases hzz with hz' | hz'
    · rw [hz'] at P1 P2 C1 C2
      clear HH hf hz hsm hz'
      generalize l.length = n at *
      go_enter Tryz.func3, Tryz.ntmps3
      go_wp2_with (first
        | (go_at_call 7; refine FE.mono ?_; rintro e w1 ⟨rfl, rfl⟩)
        | (go_at_call 9; (with_reducible refine (P1 _ HR.out).mono ?_); rintro e w2 ⟨rfl, hb⟩; have HB2 := Lib.hid hb; clear hb P1)
        | (go_at_call 10; (with_reducible refine (P2 _ HB2.out).mono ?_); rintro e w3 ⟨rfl, hb⟩; have HB3 := Lib.hid (HB2.out.trans (hb.mono HB2.out.size)); clear hb P2)
        | (go_at_call 11; (with_reducible refine (C1 _ HB3.out).mono ?_); rintro e w4 ⟨rfl, hb⟩; have HB4 := Lib.hid (HB3.out.trans (hb.mono HB3.out.size)); clear hb C1)
        | (go_at_call 12; (with_reducible refine (C2 _ HB4.out).mono ?_); rintro e w5 ⟨rfl, hb⟩; have HB5 := Lib.hid (HB4.out.trans (hb.mono HB4.out.size)); clear hb C2)
        | (go_at_call 8; refine (AW _ HB5.out).mono ?_; rintro e w9 ⟨rfl, hb⟩; have HB9 := Lib.hid (HB5.out.trans (hb.mono HB5.out.size)); clear hb))
      go_ret
      exact ⟨rfl, HB9.out⟩
    · rw [hz'] at P1 P2 C1 C2
      clear HH hf hz hsm hz'
      generalize l.length = n at *
      go_enter Tryz.func3, Tryz.ntmps3
      go_wp2_with (first
        | (go_at_call 7; refine FE.mono ?_; rintro e w1 ⟨rfl, rfl⟩)
        | (go_at_call 9; (with_reducible refine (P1 _ HR.out).mono ?_); rintro e w2 ⟨rfl, hb⟩; have HB2 := Lib.hid hb; clear hb P1)
        | (go_at_call 10; (with_reducible refine (P2 _ HB2.out).mono ?_); rintro e w3 ⟨rfl, hb⟩; have HB3 := Lib.hid (HB2.out.trans (hb.mono HB2.out.size)); clear hb P2)
        | (go_at_call 11; (with_reducible refine (C1 _ HB3.out).mono ?_); rintro e w4 ⟨rfl, hb⟩; have HB4 := Lib.hid (HB3.out.trans (hb.mono HB3.out.size)); clear hb C1)
        | (go_at_call 12; (with_reducible refine (C2 _ HB4.out).mono ?_); rintro e w5 ⟨rfl, hb⟩; have HB5 := Lib.hid (HB4.out.trans (hb.mono HB4.out.size)); clear hb C2)
        | (go_at_call 8; refine (AW _ HB5.out).mono ?_; rintro e w9 ⟨rfl, hb⟩; have HB9 := Lib.hid (HB5.out.trans (hb.mono HB5.out.size)); clear hb))
      go_ret
      exact ⟨rfl, HB9.out⟩
  rw [printO_ok hz] at P1 P2
  dsimp only at P1 P2
  rw [hz] at C1 C2
  have PA := fun W (hb : Below w.heap.size w W) => parseO_any (bsT (textO l)) (by have := textO_len (chkO_zero hz).2.right; rw [sizeOf, bytesOf]; omega) (by rw [bytesOf]; exact lines_few hz) W (hL0.out.on hb).p (hL0.out.on hb).e
  unfold PaPostO at PA
  have HPA : Hid (∀ v z (w' : World), (∀ l', parseO (bsT (textO l)).data.toList = some l' → z = (0 : Int) ∧ HoldO w' v l') → z = 0 ∧ HoldO w' v l) := Lib.hid (fun v z w' h => h _ (by rw [bytesOf]; exact parse_textO hz))
  have SA := fun u W (h1 : HoldO W u l) (h2 : HoldO W (.slice a l.length c) l) => sameO_ref u _ l (by omega) W h1 h2
  have e1 := eqT (bsT (textO l)) (bsT (textO l))
  rw [decide_eq_true rfl] at e1
  generalize bsT (textO l) = T at *
  clear hf hz hsm
  generalize l.length = n at *
  go_enter Tryz.func3, Tryz.ntmps3
  go_wp2_with (first
    | (go_at_call 7; refine FE.mono ?_; rintro e w1 ⟨rfl, rfl⟩)
    | (go_at_call 9; (with_reducible refine (P1 _ HR.out).mono ?_); rintro e w2 ⟨rfl, hb⟩; have HB2 := Lib.hid hb; clear hb P1)
    | (go_at_call 10; (with_reducible refine (P2 _ HB2.out).mono ?_); rintro e w3 ⟨rfl, hb⟩; have HB3 := Lib.hid (HB2.out.trans (hb.mono HB2.out.size)); clear hb P2)
    | (go_at_call 11; (with_reducible refine (C1 _ HB3.out).mono ?_); rintro e w4 ⟨rfl, hb⟩; have HB4 := Lib.hid (HB3.out.trans (hb.mono HB3.out.size)); clear hb C1)
    | (go_at_call 12; (with_reducible refine (C2 _ HB4.out).mono ?_); rintro e w5 ⟨rfl, hb⟩; have HB5 := Lib.hid (HB4.out.trans (hb.mono HB4.out.size)); clear hb C2)
    | (go_at_call 13; (with_reducible refine (PA _ HB5.out).mono ?_); rintro e w6 ⟨v6, z6, rfl, hp, -, hb⟩; obtain ⟨rfl, hv6⟩ := HPA.out _ _ _ hp; have HV6 := Lib.hid hv6; have HB6 := Lib.hid (HB5.out.trans (hb.mono HB5.out.size)); clear hb hp hv6 PA)
    | (go_at_call 14; (with_reducible refine (SA _ _ HV6.out (HoldV.on HH.out HB6.out)).mono ?_); rintro e w7 ⟨rfl, q, rfl⟩; have HB7 := Lib.hid (belowQ HB6.out q); clear SA)
    | (go_at_call 8; refine (AW _ HB7.out).mono ?_; rintro e w9 ⟨rfl, hb⟩; have HB9 := Lib.hid (HB7.out.trans (hb.mono HB7.out.size)); clear hb))
  go_ret
  exact ⟨rfl, HB9.out⟩
end Go.Proofs.YtmjfbpiodamamaaGreatDoor.oversPrintsw
