/-
  The walk of TrigsPrints: for every list it returns true; nothing old turns. Condition: LaidP.
-/
import Derived.Test.YtceohgjfjndcmaaGreatDoorGAwake
namespace Go.Proofs.YtceohgjfjndcmaaGreatDoor.trigsPrintsw
open Go.RowKit
theorem line_few {x : It} (h : x.1.length ≤ 300 ∧ x.2.1.length ≤ 300) : (lineI x).length ≤ 609 := by
  unfold lineI tailI noaw
  split <;> simp only [List.length_append, List.length_cons, List.length_nil] <;> omega
theorem text_few : ∀ {l : List It}, (∀ x ∈ l, x.1.length ≤ 300 ∧ x.2.1.length ≤ 300) → (textI l).length ≤ 610 * l.length
  | [], _ => by simp [textI, ended10]
  | x :: l, h => by
    have h1 := line_few (h x (by simp))
    have h2 := text_few (l := l) (fun y hy => h y (by simp [hy]))
    unfold textI ended10 at *
    rw [List.map_cons, List.flatMap_cons, List.length_append, List.length_append, List.length_cons]; simp only [List.length_cons, List.length_nil]; omega
theorem lines_few {l : List It} (hf : FewI l) (hc : chkI l = 0) : ∀ p ∈ spl 10 (textI l), p.length ≤ 4000 := fun p hp => by
  obtain ⟨_, ho⟩ := chkI_zero hc
  unfold textI at hp
  rw [spl_ended _ (fun p hp => by obtain ⟨x, hx, rfl⟩ := List.mem_map.1 hp; exact line_not (ho.right x hx)), List.mem_append] at hp
  rcases hp with hp | hp
  · obtain ⟨x, hx, rfl⟩ := List.mem_map.1 hp
    have := line_few (hf.2 x hx); omega
  · simp at hp; subst hp; simp
set_option maxRecDepth 100000 in
set_option maxHeartbeats 8000000 in
theorem walk (v : Value) (l : List It) (bl : l.length ≤ maxLen) (bs : ∀ x ∈ l, x.1.length ≤ maxLen ∧ x.2.1.length ≤ maxLen) (w : World) (h : HoldI w v l) (hL : LaidP w) :
    Calls Tryz.prog 3 #[v] w fun e' w' => e' = .returned (.bool true) ∧ Below w.heap.size w w' := by
  have AW := fun W (hb : Below w.heap.size w W) => awake12 W (hL.on hb)
  have FE := fewI_any v l w bl bs h
  unfold FewPostI at FE
  have HR := Lib.hid (Below.refl w.heap.size w)
  have HH := Lib.hid h
  have hL0 := Lib.hid hL
  obtain ⟨a, c, b, o, rfl, -, -, -⟩ := h.parts
  clear h hL bl bs
  by_cases hf : FewI l
  case neg =>
    rw [fewI_no hf] at FE
    clear hf
    generalize l.length = n at *
    go_enter Tryz.func3, Tryz.ntmps3
    go_wp2_with (first
          | (go_at_call 7; refine FE.mono ?_; rintro e w1 ⟨rfl, rfl⟩)
          | (go_at_call 8; refine (AW _ HR.out).mono ?_; rintro e w2 ⟨rfl, hb⟩))
    go_ret
    exact ⟨rfl, hb⟩
  rw [fewI_yes hf] at FE
  have hln := hf.1
  have hsm := hf.small
  have P1 := fun W (hb : Below w.heap.size w W) => printI_any _ l (by omega) hsm W (hL0.out.on hb) (HH.out.on hb)
  have P2 := fun W (hb : Below w.heap.size w W) => printI_ref _ l (by omega) hsm W (HH.out.on hb)
  have C1 := fun W (hb : Below w.heap.size w W) => checkI_any _ l (by omega) hsm W (hL0.out.on hb) (HH.out.on hb)
  have C2 := fun W (hb : Below w.heap.size w W) => checkI_ref _ l (by omega) hsm W (HH.out.on hb)
  unfold PrPostI at P1 P2
  by_cases hz : chkI l = 0
  case neg =>
    have hzz : chkI l = 22 ∨ chkI l = 1 := by rcases chkI_ways l with g | g | g <;> omega
    rw [printI_no hz] at P1 P2
    dsimp only at P1 P2
    have e1 := eqT (bsT []) (bsT [])
    rw [decide_eq_true rfl] at e1
    generalize bsT [] = T at *
    rcases hzz with hz' | hz'
    · rw [hz'] at P1 P2 C1 C2
      clear HH hf hz hsm hz'
      generalize l.length = n at *
      go_enter Tryz.func3, Tryz.ntmps3
      go_wp2_with (first
        | (go_at_call 7; refine FE.mono ?_; rintro e w1 ⟨rfl, rfl⟩)
        | (go_at_call 9; (with_reducible refine (P1 _ HR.out).mono ?_); rintro e w2 ⟨rfl, hb⟩; have HB2 := Lib.hid hb; clear hb P1)
        | (go_at_call 10; (with_reducible refine (P2 _ HB2.out).mono ?_); rintro e w3 ⟨rfl, hb⟩; have HB3 := Lib.hid (HB2.out.trans (hb.mono HB2.out.size)); clear hb P2)
        | (go_at_call 11; (with_reducible refine (C1 _ HB3.out).mono ?_); rintro e w4 ⟨rfl, hb⟩; have HB4 := Lib.hid (HB3.out.trans (hb.mono HB3.out.size)); clear hb C1)
        | (go_at_call 12; (with_reducible refine (C2 _ HB4.out).mono ?_); rintro e w5 ⟨rfl, hb⟩; have HB5 := Lib.hid (HB4.out.trans (hb.mono HB4.out.size)); clear hb C2)
        | (go_at_call 8; refine (AW _ HB5.out).mono ?_; rintro e w9 ⟨rfl, hb⟩; have HB9 := Lib.hid (HB5.out.trans (hb.mono HB5.out.size)); clear hb))
      go_ret
      exact ⟨rfl, HB9.out⟩
    · rw [hz'] at P1 P2 C1 C2
      clear HH hf hz hsm hz'
      generalize l.length = n at *
      go_enter Tryz.func3, Tryz.ntmps3
      go_wp2_with (first
        | (go_at_call 7; refine FE.mono ?_; rintro e w1 ⟨rfl, rfl⟩)
        | (go_at_call 9; (with_reducible refine (P1 _ HR.out).mono ?_); rintro e w2 ⟨rfl, hb⟩; have HB2 := Lib.hid hb; clear hb P1)
        | (go_at_call 10; (with_reducible refine (P2 _ HB2.out).mono ?_); rintro e w3 ⟨rfl, hb⟩; have HB3 := Lib.hid (HB2.out.trans (hb.mono HB2.out.size)); clear hb P2)
        | (go_at_call 11; (with_reducible refine (C1 _ HB3.out).mono ?_); rintro e w4 ⟨rfl, hb⟩; have HB4 := Lib.hid (HB3.out.trans (hb.mono HB3.out.size)); clear hb C1)
        | (go_at_call 12; (with_reducible refine (C2 _ HB4.out).mono ?_); rintro e w5 ⟨rfl, hb⟩; have HB5 := Lib.hid (HB4.out.trans (hb.mono HB4.out.size)); clear hb C2)
        | (go_at_call 8; refine (AW _ HB5.out).mono ?_; rintro e w9 ⟨rfl, hb⟩; have HB9 := Lib.hid (HB5.out.trans (hb.mono HB5.out.size)); clear hb))
      go_ret
      exact ⟨rfl, HB9.out⟩
  rw [printI_ok hz] at P1 P2
  dsimp only at P1 P2
  rw [hz] at C1 C2
  have PA := fun W (hb : Below w.heap.size w W) => parseI_any (bsT (textI l)) (by have := text_few hf.2; rw [sizeOf, bytesOf]; omega) (by rw [bytesOf]; exact lines_few hf hz) W (hL0.out.on hb)
  unfold PaPostI at PA
  have HPA : Hid (∀ v z (w' : World), (∀ l', parseI (bsT (textI l)).data.toList = some l' → z = (0 : Int) ∧ HoldI w' v l') → z = 0 ∧ HoldI w' v l) := Lib.hid (fun v z w' h => h _ (by rw [bytesOf]; exact parse_textI hz))
  have SA := fun u W (h1 : HoldI W u l) (h2 : HoldI W (.slice a l.length c) l) => sameI_ref u _ l (by omega) W h1 h2
  have e1 := eqT (bsT (textI l)) (bsT (textI l))
  rw [decide_eq_true rfl] at e1
  generalize bsT (textI l) = T at *
  clear hf hz hsm
  generalize l.length = n at *
  go_enter Tryz.func3, Tryz.ntmps3
  go_wp2_with (first
    | (go_at_call 7; refine FE.mono ?_; rintro e w1 ⟨rfl, rfl⟩)
    | (go_at_call 9; (with_reducible refine (P1 _ HR.out).mono ?_); rintro e w2 ⟨rfl, hb⟩; have HB2 := Lib.hid hb; clear hb P1)
    | (go_at_call 10; (with_reducible refine (P2 _ HB2.out).mono ?_); rintro e w3 ⟨rfl, hb⟩; have HB3 := Lib.hid (HB2.out.trans (hb.mono HB2.out.size)); clear hb P2)
    | (go_at_call 11; (with_reducible refine (C1 _ HB3.out).mono ?_); rintro e w4 ⟨rfl, hb⟩; have HB4 := Lib.hid (HB3.out.trans (hb.mono HB3.out.size)); clear hb C1)
    | (go_at_call 12; (with_reducible refine (C2 _ HB4.out).mono ?_); rintro e w5 ⟨rfl, hb⟩; have HB5 := Lib.hid (HB4.out.trans (hb.mono HB4.out.size)); clear hb C2)
    | (go_at_call 13; (with_reducible refine (PA _ HB5.out).mono ?_); rintro e w6 ⟨v6, z6, rfl, hp, -, hb⟩; obtain ⟨rfl, hv6⟩ := HPA.out _ _ _ hp; have HV6 := Lib.hid hv6; have HB6 := Lib.hid (HB5.out.trans (hb.mono HB5.out.size)); clear hb hp hv6 PA)
    | (go_at_call 14; (with_reducible refine (SA _ _ HV6.out (HH.out.on HB6.out)).mono ?_); rintro e w7 ⟨rfl, q, rfl⟩; have HB7 := Lib.hid (belowQ HB6.out q); clear SA)
    | (go_at_call 8; refine (AW _ HB7.out).mono ?_; rintro e w9 ⟨rfl, hb⟩; have HB9 := Lib.hid (HB7.out.trans (hb.mono HB7.out.size)); clear hb))
  go_ret
  exact ⟨rfl, HB9.out⟩
end Go.Proofs.YtceohgjfjndcmaaGreatDoor.trigsPrintsw
