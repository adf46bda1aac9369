/-
  The walk of ChoicePrints: for every list of selections, and every list of alternatives, it returns true; nothing old turns. Condition: LaidP.
-/
import Derived.Test.YtoipggglmpcjfaaDoorYParsesW
import Derived.Test.YtoipggglmpcjfaaDoorZFew
import Derived.Test.YtoipggglmpcjfaaDoorZOf
import Derived.Test.YtoipggglmpcjfaaDoorYOpen2
namespace Go.Proofs.YtoipggglmpcjfaaDoor.choicePrintsw
open Go.RowKit
theorem lines_few {l : List Sl} (hc : chkY l = 0) : ∀ p ∈ spl 10 (textY l), p.length ≤ 4000 := fun p hp => by
  obtain ⟨_, ho⟩ := chkY_zero hc
  unfold textY at hp
  rw [spl_ended _ (fun p hp => by obtain ⟨x, hx, rfl⟩ := List.mem_map.1 hp; exact lineY_not (ho x hx)), List.mem_append] at hp
  rcases hp with hp | hp
  · obtain ⟨x, hx, rfl⟩ := List.mem_map.1 hp
    have := lineY_len (ho x hx); omega
  · simp at hp; subst hp; simp
set_option maxRecDepth 100000 in
set_option maxHeartbeats 16000000 in
theorem walk (v u : Value) (l : List Sl) (m : List Av) (bl : l.length ≤ maxLen) (bs : ∀ x ∈ l, FitY x) (bm : m.length ≤ maxLen) (bms : ∀ x ∈ m, FitA x) (w : World) (h : HoldY w v l) (h2 : HoldA w u m) (hL : LaidP w) :
    Calls Tryd.prog 3 #[v, u] w fun e' w' => e' = .returned (.bool true) ∧ Below w.heap.size w w' := by
  have AW := fun W (hb : Below w.heap.size w W) => awake30 W (hL.on hb)
  have FE := fewY_any v l w bl (fun x hx => bs x hx) h
  have FA := fewA_any u m bm bms w h2
  unfold FewPostY at FE
  unfold FewAP at FA
  have HR := Lib.hid (Below.refl w.heap.size w)
  have HH := Lib.hid h
  have HM := Lib.hid h2
  have hL0 := Lib.hid hL
  obtain ⟨a, c, b, o, rfl, -, -, -⟩ := h.parts
  obtain ⟨ua, uc, ub, uo, rfl, -, -, -⟩ := h2.parts
  clear h h2 hL bl bs bm bms
  by_cases hf : FewY l
  case neg =>
    rw [fewY_no hf] at FE
    clear hf FA
    generalize l.length = n at *
    generalize m.length = mn at *
    go_enter Tryd.func3, Tryd.ntmps3
    go_wp2_with (first
          | (go_at_call 5; refine FE.mono ?_; rintro e w1 ⟨rfl, rfl⟩)
          | (go_at_call 7; refine (AW _ HR.out).mono ?_; rintro e w2 ⟨rfl, hb⟩))
    go_ret
    exact ⟨rfl, hb⟩
  rw [fewY_yes hf] at FE
  have hsm := hf.small
  have hn70 := hf.1
  have P1 := fun W (hb : Below w.heap.size w W) => printY_any (.slice a l.length c) l (by omega) hsm W (hL0.out.on hb) (HoldV.on HH.out hb)
  have P2 := fun v W (h : HoldY W v l) => printY_ref v l (by omega) hsm W h
  have TO := fun v W (h : HoldY W v l) => told_any v l (by omega) W h
  unfold PrPostY at P1 P2
  -- what the alternatives' selections come to, once they are few
  have OFS : Hid (FewA m → (∀ W, Below w.heap.size w W → Calls Tryd.prog 12 #[.slice ua m.length uc] W fun e w' => ∃ v', e = .returned v' ∧ HoldY w' v' (m.map selOf) ∧ Below W.heap.size W w') ∧ (∀ W, Below w.heap.size w W → Calls Tryd.prog 13 #[.slice ua m.length uc] W fun e w' => ∃ v', e = .returned v' ∧ HoldY w' v' (m.map selOf) ∧ Below W.heap.size W w') ∧ (∀ v W, HoldY W v (m.map selOf) → Calls Tryd.prog 10 #[v] W fun e w' => ∃ v', e = .returned v' ∧ HoldY w' v' (m.map selOf) ∧ Below W.heap.size W w') ∧ (∀ p q W, HoldY W p (m.map selOf) → HoldY W q (m.map selOf) → Calls Tryd.prog 11 #[p, q] W fun e w' => e = .returned (.bool true) ∧ ∃ q, w' = W.drewN q)) := Lib.hid (fun hfa => by
    have h70 := hfa.1
    exact ⟨fun W hb => of_any _ m (by omega) W (HM.out.on hb), fun W hb => of_ref _ m (by omega) W (HM.out.on hb), fun v W h => told_any v _ (by rw [List.length_map]; omega) W h, fun p q W h1 h2 => sameY_ref p q _ (by rw [List.length_map]; omega) W h1 h2⟩)
  by_cases hz : chkY l = 0
  case neg =>
    rw [printY_no hz] at P1 P2
    dsimp only at P1 P2
    have hzz : chkY l = 22 ∨ chkY l = 1 := by rcases chkY_ways l with g | g | g <;> simp_all
    generalize chkY l = z at *
    obtain ⟨T, hT⟩ : ∃ T, bsT [] = T := ⟨_, rfl⟩
    rw [hT] at P1 P2
    have e1 := eqT T T
    rw [decide_eq_true rfl] at e1
    clear hT
    rcases hzz with rfl | rfl
    all_goals
      clear hf hz hsm hn70
      generalize l.length = n at *
      generalize m.length = mn at *
      go_enter Tryd.func3, Tryd.ntmps3
      go_wp2_with (first
        | (go_at_call 5; refine FE.mono ?_; rintro e w1 ⟨rfl, rfl⟩)
        | (go_at_call 6; (with_reducible refine FA.mono ?_); rintro e w1 ⟨fb, rfl, hfb, hb⟩; have HB1 := Lib.hid hb; have HFB := Lib.hid hfb; clear hb hfb FA; cases fb)
        | (go_at_call 8; (with_reducible refine (P1 _ HB1.out).mono ?_); rintro e w2 ⟨rfl, hb⟩; have HB2 := Lib.hid (HB1.out.trans (hb.mono HB1.out.size)); have HOO := Lib.hid (OFS.out (HFB.out trivial)); clear hb P1)
        | (go_at_call 10; (with_reducible refine (TO _ _ (HoldV.on HH.out HB2.out)).mono ?_); rintro e w3 ⟨v3, rfl, hv, hb⟩; have HV3 := Lib.hid hv; have HB3 := Lib.hid (HB2.out.trans (hb.mono HB2.out.size)); clear hb hv)
        | (go_at_call 9; (with_reducible refine (P2 _ _ HV3.out).mono ?_); rintro e w4 ⟨rfl, hb⟩; have HB4 := Lib.hid (HB3.out.trans (hb.mono HB3.out.size)); clear hb P2)
        | (go_at_call 12; (with_reducible refine (HOO.out.1 _ HB4.out).mono ?_); rintro e w5 ⟨v5, rfl, hv, hb⟩; have HV5 := Lib.hid hv; have HB5 := Lib.hid (HB4.out.trans (hb.mono HB4.out.size)); clear hb hv)
        | (go_at_call 10; (with_reducible refine (HOO.out.2.2.1 _ _ HV5.out).mono ?_); rintro e w6 ⟨v6, rfl, hv, hb⟩; have HV6 := Lib.hid hv; have HB6 := Lib.hid (HB5.out.trans (hb.mono HB5.out.size)); clear hb hv)
        | (go_at_call 13; (with_reducible refine (HOO.out.2.1 _ HB6.out).mono ?_); rintro e w7 ⟨v7, rfl, hv, hb⟩; have HV7 := Lib.hid hv; have HV67 := Lib.hid (HoldV.on HV6.out hb); have HB7 := Lib.hid (HB6.out.trans (hb.mono HB6.out.size)); clear hb hv)
        | (go_at_call 11; (with_reducible refine (HOO.out.2.2.2 _ _ _ HV67.out HV7.out).mono ?_); rintro e w8 ⟨rfl, q, rfl⟩; have HB8 := Lib.hid (belowQ HB7.out q))
        | (go_at_call 7; refine (AW _ HB8.out).mono ?_; rintro e w9 ⟨rfl, hb⟩; have HB9 := Lib.hid (HB8.out.trans (hb.mono HB8.out.size)); clear hb)
        | (go_at_call 7; refine (AW _ HB1.out).mono ?_; rintro e w9 ⟨rfl, hb⟩; have HB9 := Lib.hid (HB1.out.trans (hb.mono HB1.out.size)); clear hb))
      all_goals
        go_ret
        exact ⟨rfl, HB9.out⟩
  rw [printY_ok hz] at P1 P2
  dsimp only at P1 P2
  have PA := fun W (hb : Below w.heap.size w W) => parseY_any (bsT (textY l)) (by have := textY_len (chkY_zero hz).2; rw [sizeOf, bytesOf]; omega) (by rw [bytesOf]; exact lines_few hz) W (hL0.out.on hb)
  unfold PaPostY at PA
  have HPA : Hid (∀ v z (w' : World), (∀ l', parseY (bsT (textY l)).data.toList = some l' → z = (0 : Int) ∧ HoldY w' v l') → z = 0 ∧ HoldY w' v l) := Lib.hid (fun v z w' h => h _ (by rw [bytesOf]; exact parse_textY hz))
  have SA := fun p q W (h1 : HoldY W p l) (h2 : HoldY W q l) => sameY_ref p q l (by omega) W h1 h2
  have e1 := eqT (bsT (textY l)) (bsT (textY l))
  rw [decide_eq_true rfl] at e1
  generalize bsT (textY l) = T at *
  clear hf hz hsm hn70
  generalize l.length = n at *
  generalize m.length = mn at *
  go_enter Tryd.func3, Tryd.ntmps3
  go_wp2_with (first
    | (go_at_call 5; refine FE.mono ?_; rintro e w1 ⟨rfl, rfl⟩)
    | (go_at_call 6; (with_reducible refine FA.mono ?_); rintro e w1 ⟨fb, rfl, hfb, hb⟩; have HB1 := Lib.hid hb; have HFB := Lib.hid hfb; clear hb hfb FA; cases fb)
    | (go_at_call 8; (with_reducible refine (P1 _ HB1.out).mono ?_); rintro e w2 ⟨rfl, hb⟩; have HB2 := Lib.hid (HB1.out.trans (hb.mono HB1.out.size)); have HOO := Lib.hid (OFS.out (HFB.out trivial)); clear hb P1)
    | (go_at_call 10; (with_reducible refine (TO _ _ (HoldV.on HH.out HB2.out)).mono ?_); rintro e w3 ⟨v3, rfl, hv, hb⟩; have HV3 := Lib.hid hv; have HB3 := Lib.hid (HB2.out.trans (hb.mono HB2.out.size)); clear hb hv)
    | (go_at_call 9; (with_reducible refine (P2 _ _ HV3.out).mono ?_); rintro e w4 ⟨rfl, hb⟩; have HB4 := Lib.hid (HB3.out.trans (hb.mono HB3.out.size)); clear hb P2)
    | (go_at_call 12; (with_reducible refine (HOO.out.1 _ HB4.out).mono ?_); rintro e w5 ⟨v5, rfl, hv, hb⟩; have HV5 := Lib.hid hv; have HB5 := Lib.hid (HB4.out.trans (hb.mono HB4.out.size)); clear hb hv)
    | (go_at_call 10; (with_reducible refine (HOO.out.2.2.1 _ _ HV5.out).mono ?_); rintro e w6 ⟨v6, rfl, hv, hb⟩; have HV6 := Lib.hid hv; have HB6 := Lib.hid (HB5.out.trans (hb.mono HB5.out.size)); clear hb hv)
    | (go_at_call 13; (with_reducible refine (HOO.out.2.1 _ HB6.out).mono ?_); rintro e w7 ⟨v7, rfl, hv, hb⟩; have HV7 := Lib.hid hv; have HV67 := Lib.hid (HoldV.on HV6.out hb); have HB7 := Lib.hid (HB6.out.trans (hb.mono HB6.out.size)); clear hb hv)
    | (go_at_call 11; (with_reducible refine (HOO.out.2.2.2 _ _ _ HV67.out HV7.out).mono ?_); rintro e w8 ⟨rfl, q, rfl⟩; have HB8 := Lib.hid (belowQ HB7.out q))
    | (go_at_call 14; (with_reducible refine (PA _ HB8.out).mono ?_); rintro e w10 ⟨v10, z10, rfl, hp, -, hb⟩; obtain ⟨rfl, hv10⟩ := HPA.out _ _ _ hp; have HV10 := Lib.hid hv10; have HB10 := Lib.hid (HB8.out.trans (hb.mono HB8.out.size)); clear hb hp hv10 PA)
    | (go_at_call 10; (with_reducible refine (TO _ _ HV10.out).mono ?_); rintro e w11 ⟨v11, rfl, hv, hb⟩; have HV11 := Lib.hid hv; have HB11 := Lib.hid (HB10.out.trans (hb.mono HB10.out.size)); clear hb hv)
    | (go_at_call 10; (with_reducible refine (TO _ _ (HoldV.on HH.out HB11.out)).mono ?_); rintro e w12 ⟨v12, rfl, hv, hb⟩; have HV12 := Lib.hid hv; have HV112 := Lib.hid (HoldV.on HV11.out hb); have HB12 := Lib.hid (HB11.out.trans (hb.mono HB11.out.size)); clear hb hv)
    | (go_at_call 11; (with_reducible refine (SA _ _ _ HV112.out HV12.out).mono ?_); rintro e w13 ⟨rfl, q13, rfl⟩; have HB13 := Lib.hid (belowQ HB12.out q13))
    | (go_at_call 7; refine (AW _ HB13.out).mono ?_; rintro e w9 ⟨rfl, hb⟩; have HB9 := Lib.hid (HB13.out.trans (hb.mono HB13.out.size)); clear hb)
    | (go_at_call 7; refine (AW _ HB1.out).mono ?_; rintro e w9 ⟨rfl, hb⟩; have HB9 := Lib.hid (HB1.out.trans (hb.mono HB1.out.size)); clear hb))
  all_goals
    go_ret
    exact ⟨rfl, HB9.out⟩
end Go.Proofs.YtoipggglmpcjfaaDoor.choicePrintsw
