/-
  The walk of TrigsFired: for every list it returns true; nothing old turns. Condition: LaidP.
-/
import Derived.Test.YtceohgjfjndcmaaGreatDoorGAwake
import Derived.Test.YtceohgjfjndcmaaGreatDoorGRefPrintF
namespace Go.Proofs.YtceohgjfjndcmaaGreatDoor.trigsFiredw
open Go.RowKit
theorem join_flat (c : UInt8) : ∀ ps : List Bs, (∀ x ∈ ps, x.length ≤ 3000) → (ps.flatMap fun p => c :: p).length ≤ tp ps
  | [], _ => by simp
  | x :: l, h => by
    have h1 := h x (by simp)
    have h2 := join_flat c l (fun y hy => h y (by simp [hy]))
    unfold tp at *
    rw [List.flatMap_cons, List.length_append, List.length_cons, List.map_cons, List.sum_cons]; omega
theorem join_tp (ps : List Bs) (h : ∀ x ∈ ps, x.length ≤ 3000) : (joinC 32 (byF ps)).length ≤ 1 + tp ps := by
  unfold byF; split
  · simp [joinC]
  · rename_i hn
    have h1 := flat_join 32 ps hn
    have h2 := join_flat 32 ps h
    rw [h1, List.length_cons] at h2; omega
theorem line_few {p : Fp} (h : p.1.1.length ≤ 300 ∧ ∀ x ∈ p.1.2, x.length ≤ 3000) : (lineF p.1).length ≤ 302 + tp p.1.2 := by
  have := join_tp _ h.2
  unfold lineF; rw [List.length_append, List.length_cons]; omega
theorem text_few : ∀ {L : List Fp}, (∀ p ∈ L, p.1.1.length ≤ 300 ∧ ∀ x ∈ p.1.2, x.length ≤ 3000) → (textF (L.map (·.1))).length ≤ 303 * L.length + tot L
  | [], _ => by simp [textF, ended10]
  | p :: l, h => by
    have h1 := line_few (h p (by simp))
    have h2 := text_few (L := l) (fun y hy => h y (by simp [hy]))
    have e : textF ((p :: l).map (·.1)) = (lineF p.1 ++ [10]) ++ textF (l.map (·.1)) := rfl
    rw [e, List.length_append, List.length_append, List.length_cons]
    unfold tot at *
    rw [List.map_cons, List.sum_cons]; simp only [List.length_cons, List.length_nil]; omega
theorem few_part {L : List Fp} (hf : FewFr L) : ∀ p ∈ L, p.1.1.length ≤ 300 ∧ ∀ x ∈ p.1.2, x.length ≤ 3000 := fun p hp => ⟨(hf.2.1 p hp).1, fun x hx => by
  have h1 := tp_mem hx
  have h2 := tot_mem hp
  have h3 := hf.2.2
  omega⟩
theorem text_bound {L : List Fp} {m : List Fr} (hm : L.map (·.1) = m) (hf : FewFr L) : (bsT (textF m)).size ≤ 90000 := by
  have h1 := text_few (few_part hf)
  have h2 := hf.1
  have h3 := hf.2.2
  rw [sizeOf, bytesOf, ← hm]; omega
theorem lines_four {L : List Fp} {m : List Fr} (hm : L.map (·.1) = m) (hf : FewFr L) (hc : chkF m = 0) : ∀ p ∈ spl 10 (textF m), p.length ≤ 4000 := fun p hp => by
  obtain ⟨_, ho⟩ := chkF_zero hc
  unfold textF at hp
  rw [spl_ended _ (fun p hp => by obtain ⟨x, hx, rfl⟩ := List.mem_map.1 hp; exact lineF_not (ho.right x hx)), List.mem_append] at hp
  rcases hp with hp | hp
  · obtain ⟨x, hx, rfl⟩ := List.mem_map.1 hp
    rw [← hm] at hx
    obtain ⟨q, hq, rfl⟩ := List.mem_map.1 hx
    have h1 := line_few (few_part hf q hq)
    have h2 := tot_mem hq
    have h3 := hf.2.2
    omega
  · simp at hp; subst hp; simp
set_option maxRecDepth 100000 in
set_option maxHeartbeats 8000000 in
theorem walk (v : Value) (l : List Fp) (bl : l.length ≤ maxLen) (bs : ∀ p ∈ l, p.1.1.length ≤ maxLen ∧ p.1.2.length ≤ maxLen ∧ ∀ q ∈ p.1.2, q.length ≤ maxLen) (w : World) (h : HoldF w v l) (hL : LaidP w) :
    Calls Tryz.prog 4 #[v] w fun e' w' => e' = .returned (.bool true) ∧ Below w.heap.size w w' := by
  have AW := fun W (hb : Below w.heap.size w W) => awake12 W (hL.on hb)
  have FE := fewFr_any v l w bl bs h
  unfold FewPostFr at FE
  have HR := Lib.hid (Below.refl w.heap.size w)
  have HH := Lib.hid h
  have hL0 := Lib.hid hL
  obtain ⟨a, c, b, o, rfl, -, -, -⟩ := h.parts
  clear h hL bl bs
  by_cases hf : FewFr l
  case neg =>
    rw [fewFr_no hf] at FE
    clear hf
    generalize l.length = n at *
    go_enter Tryz.func4, Tryz.ntmps4
    go_wp2_with (first
          | (go_at_call 15; refine FE.mono ?_; rintro e w1 ⟨rfl, rfl⟩)
          | (go_at_call 8; refine (AW _ HR.out).mono ?_; rintro e w2 ⟨rfl, hb⟩))
    go_ret
    exact ⟨rfl, hb⟩
  rw [fewFr_yes hf] at FE
  have hln := hf.1
  have hsm : SmallF l := fun p hp => ⟨by have := hf.2.1 p hp; omega, by have := hf.2.1 p hp; omega, hf.small hp⟩
  have P1 := fun W (hb : Below w.heap.size w W) => printF_any _ l (by omega) hsm W (hL0.out.on hb) (HH.out.on hb)
  have P2 := fun W (hb : Below w.heap.size w W) => printF_ref _ l (by omega) hsm W (HH.out.on hb)
  have C1 := fun W (hb : Below w.heap.size w W) => chkF_any _ l (by omega) hsm W (hL0.out.on hb) (HH.out.on hb)
  have C2 := fun W (hb : Below w.heap.size w W) => chkF_ref _ l (by omega) hsm W (HH.out.on hb)
  unfold PrPostF at P1 P2
  obtain ⟨m, hm⟩ : ∃ m, l.map (·.1) = m := ⟨_, rfl⟩
  rw [hm] at P1 P2 C1 C2
  by_cases hz : chkF m = 0
  case neg =>
    have hzz : chkF m = 22 ∨ chkF m = 1 := by rcases chkF_ways m with g | g | g <;> omega
    rw [printFr_no hz] at P1 P2
    clear hm
    dsimp only at P1 P2
    have e1 := eqT (bsT []) (bsT [])
    rw [decide_eq_true rfl] at e1
    generalize bsT [] = T at *
    rcases hzz with hz' | hz'
    · rw [hz'] at P1 P2 C1 C2
      clear HH hf hz hsm hz'
      generalize l.length = n at *
      go_enter Tryz.func4, Tryz.ntmps4
      go_wp2_with (first
        | (go_at_call 15; refine FE.mono ?_; rintro e w1 ⟨rfl, rfl⟩)
        | (go_at_call 16; (with_reducible refine (P1 _ HR.out).mono ?_); rintro e w2 ⟨rfl, hb⟩; have HB2 := Lib.hid hb; clear hb P1)
        | (go_at_call 17; (with_reducible refine (P2 _ HB2.out).mono ?_); rintro e w3 ⟨rfl, hb⟩; have HB3 := Lib.hid (HB2.out.trans (hb.mono HB2.out.size)); clear hb P2)
        | (go_at_call 18; (with_reducible refine (C1 _ HB3.out).mono ?_); rintro e w4 ⟨rfl, hb⟩; have HB4 := Lib.hid (HB3.out.trans (hb.mono HB3.out.size)); clear hb C1)
        | (go_at_call 19; (with_reducible refine (C2 _ HB4.out).mono ?_); rintro e w5 ⟨rfl, hb⟩; have HB5 := Lib.hid (HB4.out.trans (hb.mono HB4.out.size)); clear hb C2)
        | (go_at_call 8; refine (AW _ HB5.out).mono ?_; rintro e w9 ⟨rfl, hb⟩; have HB9 := Lib.hid (HB5.out.trans (hb.mono HB5.out.size)); clear hb))
      go_ret
      exact ⟨rfl, HB9.out⟩
    · rw [hz'] at P1 P2 C1 C2
      clear HH hf hz hsm hz'
      generalize l.length = n at *
      go_enter Tryz.func4, Tryz.ntmps4
      go_wp2_with (first
        | (go_at_call 15; refine FE.mono ?_; rintro e w1 ⟨rfl, rfl⟩)
        | (go_at_call 16; (with_reducible refine (P1 _ HR.out).mono ?_); rintro e w2 ⟨rfl, hb⟩; have HB2 := Lib.hid hb; clear hb P1)
        | (go_at_call 17; (with_reducible refine (P2 _ HB2.out).mono ?_); rintro e w3 ⟨rfl, hb⟩; have HB3 := Lib.hid (HB2.out.trans (hb.mono HB2.out.size)); clear hb P2)
        | (go_at_call 18; (with_reducible refine (C1 _ HB3.out).mono ?_); rintro e w4 ⟨rfl, hb⟩; have HB4 := Lib.hid (HB3.out.trans (hb.mono HB3.out.size)); clear hb C1)
        | (go_at_call 19; (with_reducible refine (C2 _ HB4.out).mono ?_); rintro e w5 ⟨rfl, hb⟩; have HB5 := Lib.hid (HB4.out.trans (hb.mono HB4.out.size)); clear hb C2)
        | (go_at_call 8; refine (AW _ HB5.out).mono ?_; rintro e w9 ⟨rfl, hb⟩; have HB9 := Lib.hid (HB5.out.trans (hb.mono HB5.out.size)); clear hb))
      go_ret
      exact ⟨rfl, HB9.out⟩
  rw [printFr_ok hz] at P1 P2
  dsimp only at P1 P2
  rw [hz] at C1 C2
  have PA := fun W (hb : Below w.heap.size w W) => parseFr_any (bsT (textF m)) (text_bound hm hf) (by rw [bytesOf]; exact lines_four hm hf hz) W (hL0.out.on hb)
  unfold PaPostF at PA
  have HPA : Hid (∀ v z (w' : World), (∀ l', parseF (bsT (textF m)).data.toList = some l' → z = (0 : Int) ∧ ∃ L : List Fp, L.map (·.1) = l' ∧ HoldF w' v L) → z = 0 ∧ ∃ L : List Fp, L.map (·.1) = m ∧ HoldF w' v L) := Lib.hid (fun v z w' h => h _ (by rw [bytesOf]; exact parse_textF hz))
  have SA := fun u (M : List Fp) W (hM : M.map (·.1) = m) (h1 : HoldF W u M) (h2 : HoldF W (.slice a l.length c) l) => sameF_ref u _ M l (by rw [hM, hm]) (by have := congrArg List.length hM; have := congrArg List.length hm; simp at *; omega) (fun p hp => by
    have h5 : p.1 ∈ l.map (·.1) := by rw [hm, ← hM]; exact List.mem_map_of_mem hp
    obtain ⟨q, hq, e⟩ := List.mem_map.1 h5
    rw [← e]; exact (hsm q hq).2.1) W h1 h2
  have e1 := eqT (bsT (textF m)) (bsT (textF m))
  rw [decide_eq_true rfl] at e1
  generalize bsT (textF m) = T at *
  clear hf hz hsm hm
  generalize l.length = n at *
  go_enter Tryz.func4, Tryz.ntmps4
  go_wp2_with (first
    | (go_at_call 15; refine FE.mono ?_; rintro e w1 ⟨rfl, rfl⟩)
    | (go_at_call 16; (with_reducible refine (P1 _ HR.out).mono ?_); rintro e w2 ⟨rfl, hb⟩; have HB2 := Lib.hid hb; clear hb P1)
    | (go_at_call 17; (with_reducible refine (P2 _ HB2.out).mono ?_); rintro e w3 ⟨rfl, hb⟩; have HB3 := Lib.hid (HB2.out.trans (hb.mono HB2.out.size)); clear hb P2)
    | (go_at_call 18; (with_reducible refine (C1 _ HB3.out).mono ?_); rintro e w4 ⟨rfl, hb⟩; have HB4 := Lib.hid (HB3.out.trans (hb.mono HB3.out.size)); clear hb C1)
    | (go_at_call 19; (with_reducible refine (C2 _ HB4.out).mono ?_); rintro e w5 ⟨rfl, hb⟩; have HB5 := Lib.hid (HB4.out.trans (hb.mono HB4.out.size)); clear hb C2)
    | (go_at_call 20; (with_reducible refine (PA _ HB5.out).mono ?_); rintro e w6 ⟨v6, z6, rfl, hp, -, hb⟩; obtain ⟨rfl, M6, hm6, hv6⟩ := HPA.out _ _ _ hp; have HM6 := Lib.hid hm6; have HV6 := Lib.hid hv6; have HB6 := Lib.hid (HB5.out.trans (hb.mono HB5.out.size)); clear hb hp hv6 hm6 PA)
    | (go_at_call 21; (with_reducible refine (SA _ _ _ HM6.out HV6.out (HH.out.on HB6.out)).mono ?_); rintro e w7 ⟨rfl, hb⟩; have HB7 := Lib.hid (HB6.out.trans (hb.mono HB6.out.size)); clear SA hb)
    | (go_at_call 8; refine (AW _ HB7.out).mono ?_; rintro e w9 ⟨rfl, hb⟩; have HB9 := Lib.hid (HB7.out.trans (hb.mono HB7.out.size)); clear hb))
  go_ret
  exact ⟨rfl, HB9.out⟩
end Go.Proofs.YtceohgjfjndcmaaGreatDoor.trigsFiredw
