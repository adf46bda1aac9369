/-
  The walk of ListsPuts: for every slice of lists, every list and every text it returns true; nothing old turns. Condition: LaidP.
-/
import Derived.Test.YtogkickaebmeoaaDoorTAwake
import Derived.Test.YtogkickaebmeoaaDoorTOpen
import Derived.Test.YtogkickaebmeoaaDoorTFew
import Derived.Test.YtogkickaebmeoaaDoorTPut
namespace Go.Proofs.YtogkickaebmeoaaDoor.listsPutsw
open Go.RowKit
theorem put_len (l : List Lp) (x : Lp) : (putL l x).length ≤ l.length + 1 := by
  unfold putL
  split
  · rw [List.length_set]; omega
  · simp only [List.length_append, List.length_cons, List.length_take, List.length_drop]; omega
theorem put_mem {l : List Lp} {x p : Lp} (hp : p ∈ putL l x) : p ∈ l ∨ p = x := by
  unfold putL at hp
  split at hp
  · exact List.mem_or_eq_of_mem_set hp
  · rcases List.mem_append.1 hp with h1 | h1
    · exact .inl (List.mem_of_mem_take h1)
    · rcases List.mem_cons.1 h1 with h2 | h2
      · exact .inr h2
      · exact .inl (List.mem_of_mem_drop h2)
theorem put_find (l : List Lp) (x : Lp) : ∃ k : Nat, idxG (putL l x) (nameIs x.1.1) = k := by
  have hx : nameIs x.1.1 x = true := by unfold nameIs; simp
  unfold putL
  cases h : l.findIdx? (nameIs x.1.1) with
  | some k0 =>
    obtain ⟨hk, h1, h2⟩ := List.findIdx?_eq_some_iff_getElem.1 h
    have hs : (l.set k0 x)[k0]? = some x := List.getElem?_set_self hk
    refine ⟨k0, idxG_hit hs hx (fun j y hj hy => ?_)⟩
    rw [List.getElem?_set_ne (by omega)] at hy
    obtain ⟨hj', e⟩ := List.getElem?_eq_some_iff.1 hy
    have := h2 j hj
    rw [e] at this
    simpa using this
  | none =>
    have hm : cutL l x.1.1 ≤ l.length := by
      rcases oversL_none (l := l) (p := x.1.1) with ⟨-, h2⟩ | ⟨k, -, h2, h3⟩ <;> omega
    have hl : (l.take (cutL l x.1.1)).length = cutL l x.1.1 := by rw [List.length_take]; omega
    have hs : (l.take (cutL l x.1.1) ++ x :: l.drop (cutL l x.1.1))[cutL l x.1.1]? = some x := by
      rw [List.getElem?_append_right (by omega), hl]; simp
    refine ⟨cutL l x.1.1, idxG_hit hs hx (fun j y hj hy => ?_)⟩
    rw [List.getElem?_append_left (by omega), List.getElem?_take_of_lt (by omega)] at hy
    exact List.findIdx?_eq_none_iff.1 h y (List.mem_of_getElem? hy)
theorem drop_find (l : List Lp) (p : Bs) : idxG (dropL l p) (nameIs p) = -1 := idxG_miss (fun j y hy => by
  have := (List.mem_filter.1 (List.mem_of_getElem? hy)).2
  unfold offT at this
  unfold nameIs
  simpa using this)
set_option maxRecDepth 100000 in
set_option maxHeartbeats 8000000 in
theorem walk (w : World) (v : Value) (L : List Lp) (bl : L.length ≤ maxLen) (bs : ∀ p ∈ L, FitL p) (p : Lp) (bp : FitL p ∧ HoldT w p.2 p.1.2) (nm : ByteArray) (bn : nm.size ≤ 9223372036854775807) (h : HoldL w v L) (hL : LaidP w) :
    Calls Tryd.prog 5 #[v, aggT p, .string nm] w fun e' w' => e' = .returned (.bool true) ∧ Below w.heap.size w w' := by
  have AW := fun W (hb : Below w.heap.size w W) => awake13 W (hL.on hb)
  obtain ⟨⟨pn, pp⟩, pu⟩ := p
  have bf : pn.length ≤ maxLen ∧ pp.length ≤ maxLen ∧ ∀ q ∈ pp, q.length ≤ maxLen := bp.1
  have hp : HoldT w pu pp := bp.2
  obtain ⟨ua, un, uc, rfl⟩ := HoldT.form hp
  clear bp
  have B0 := (Below.refl w.heap.size w).alloc (Nat.le_refl _) (.cells #[.string (bsT pn), .slice ua un uc] 24)
  have B1 := B0.alloc B0.size (.cells #[.string (bsT pn), .slice ua un uc] 24)
  have HBX := Lib.hid (Box2.new w (.string (bsT pn)) (.slice ua un uc) 24)
  have HB1 := Lib.hid B1
  have HB0 := Lib.hid B0
  have b1 := box2 (w.alloc (.cells #[.string (bsT pn), .slice ua un uc] 24)) (.string (bsT pn)) (.slice ua un uc) 24
  rw [World.size_alloc] at b1
  have FX := few13_any _ [((pn, pp), .slice ua un uc)] _ (by unfold maxLen; simp) (fun y hy => by simp at hy; subst hy; exact bf) (hold1L b1.1 b1.2 (hp.on B1))
  have FE := few13_any v L _ bl bs (h.on B0)
  unfold FewPostL at FE FX
  have HH := Lib.hid h
  have HP := Lib.hid hp
  have HA1 := Lib.hid (HBX.out.on ((Below.refl (w.alloc (.cells #[.string (bsT pn), .slice ua un uc] 24)).heap.size (w.alloc (.cells #[.string (bsT pn), .slice ua un uc] 24))).alloc (Nat.le_refl _) (.cells #[.string (bsT pn), .slice ua un uc] 24)))
  obtain ⟨a, c, b, o, rfl, -, -, -⟩ := h.2
  clear h hL bl bs bf B0 B1 b1 hp
  unfold aggT
  try dsimp only
  try dsimp only at FX
  by_cases hf : FewL L
  case neg =>
    rw [fewL_no hf] at FE
    clear hf HH HP FX
    generalize L.length = n at *
    generalize bsT pn = X at *
    obtain ⟨x0, x1, -⟩ := HBX.out
    go_enter Tryd.func5, Tryd.ntmps5
    go_wp2_with (first
          | (go_at_call 8; (with_reducible refine FE.mono ?_); rintro e w1 ⟨rfl, rfl⟩)
          | (go_at_call 9; refine (AW _ HB0.out).mono ?_; rintro e w2 ⟨rfl, hb⟩; have HB9 := Lib.hid (HB0.out.trans (hb.mono HB0.out.size)); clear hb))
    go_ret
    exact ⟨rfl, HB9.out⟩
  rw [fewL_yes hf] at FE
  by_cases hfx : FewL [((pn, pp), .slice ua un uc)]
  case neg =>
    rw [fewL_no hfx] at FX
    clear hfx hf HH HP
    generalize L.length = n at *
    generalize bsT pn = X at *
    obtain ⟨x0, x1, -⟩ := HBX.out
    go_enter Tryd.func5, Tryd.ntmps5
    go_wp2_with (first
          | (go_at_call 8; first | ((with_reducible refine FX.mono ?_); rintro e w1 ⟨rfl, rfl⟩) | ((with_reducible refine FE.mono ?_); rintro e w1 ⟨rfl, rfl⟩))
          | (go_at_call 9; refine (AW _ HB1.out).mono ?_; rintro e w2 ⟨rfl, hb⟩; have HB9 := Lib.hid (HB1.out.trans (hb.mono HB1.out.size)); clear hb))
    go_ret
    exact ⟨rfl, HB9.out⟩
  rw [fewL_yes hfx] at FX
  by_cases hn3 : 300 < nm.size
  · clear hfx hf HH HP
    generalize L.length = n at *
    generalize bsT pn = X at *
    obtain ⟨x0, x1, -⟩ := HBX.out
    go_enter Tryd.func5, Tryd.ntmps5
    go_wp2_with (first
          | (go_at_call 8; first | ((with_reducible refine FX.mono ?_); rintro e w1 ⟨rfl, rfl⟩) | ((with_reducible refine FE.mono ?_); rintro e w1 ⟨rfl, rfl⟩))
          | (go_at_call 9; refine (AW _ HB1.out).mono ?_; rintro e w2 ⟨rfl, hb⟩; have HB9 := Lib.hid (HB1.out.trans (hb.mono HB1.out.size)); clear hb))
    go_ret
    exact ⟨rfl, HB9.out⟩
  have hln := hf.1
  have hpp : pp.length ≤ 70 := (hfx.2.1 _ (by simp : ((pn, pp), Value.slice ua un uc) ∈ [((pn, pp), Value.slice ua un uc)])).2
  have hin := HH.out.1
  have P1 := fun W (hb : Below w.heap.size w W) => put13_any _ L (by omega) W ((pn, pp), .slice ua un uc) ua un uc rfl (HP.out.on hb) (HH.out.on hb)
  have P2 := fun W (hb : Below w.heap.size w W) => put13_ref _ L (by omega) W ((pn, pp), .slice ua un uc) ua un uc rfl (HP.out.on hb) (HH.out.on hb)
  have D1 := fun W (hb : Below w.heap.size w W) => drop13_any _ L (by omega) nm W (HH.out.on hb)
  have D2 := fun W (hb : Below w.heap.size w W) => drop13_ref _ L (by omega) nm W (HH.out.on hb)
  have F1 := fun W (hb : Below w.heap.size w W) => find13_any _ L (by omega) nm W (HH.out.on hb)
  have F2 := fun W (hb : Below w.heap.size w W) => find13_ref _ L (by omega) nm W (HH.out.on hb)
  obtain ⟨k, hk1⟩ := put_find L ((pn, pp), .slice ua un uc)
  have hpl := put_len L ((pn, pp), .slice ua un uc)
  have hdl := dropL_len L nm.data.toList
  have hpm : ∀ q ∈ putL L ((pn, pp), .slice ua un uc), q.1.2.length ≤ 90000 := fun q hq => by
    rcases put_mem hq with h1 | h1
    · have := (hf.2.1 q h1).2; omega
    · subst h1; show pp.length ≤ 90000; omega
  have hdm : ∀ q ∈ dropL L nm.data.toList, q.1.2.length ≤ 90000 := fun q hq => by have := (hf.2.1 q (List.mem_filter.1 hq).1).2; omega
  have hdi : InT w (dropL L nm.data.toList) := fun q hq => hin q (List.mem_filter.1 hq).1
  have HDI := Lib.hid hdi
  have F3 := fun u W (h : HoldL W u (putL L ((pn, pp), .slice ua un uc))) => find13_any u _ (by omega) (bsT pn) W h
  have F4 := fun u W (h : HoldL W u (dropL L nm.data.toList)) => find13_any u _ (by omega) nm W h
  have S1 := fun u1 u2 W h1 h2 => same13_ref u1 u2 (putL L ((pn, pp), .slice ua un uc)) (putL L ((pn, pp), .slice ua un uc)) rfl (by omega) hpm W h1 h2
  have S2 := fun u1 u2 W h1 h2 => same13_ref u1 u2 (dropL L nm.data.toList) (dropL L nm.data.toList) rfl (by omega) hdm W h1 h2
  try dsimp only at hk1
  rw [bytesOf, hk1] at F3
  rw [drop_find] at F4
  unfold PutPostL at P1 P2
  unfold DropPostL at D1 D2
  unfold aggT at P1 P2
  try dsimp only at P1 P2
  generalize idxG L (nameIs nm.data.toList) = zz at *
  generalize putL L ((pn, pp), .slice ua un uc) = PL at *
  generalize dropL L nm.data.toList = DL at *
  clear hf hfx HH HP hk1 hln hin hpm hdm hdi
  generalize L.length = n at *
  generalize bsT pn = X at *
  have k0 : (0 : Int) ≤ (k : Int) := by omega
  obtain ⟨x0, x1, -⟩ := HBX.out
  go_enter Tryd.func5, Tryd.ntmps5
  go_wp2_with (first
          | (go_at_call 8; first | ((with_reducible refine FX.mono ?_); rintro e w1 ⟨rfl, rfl⟩; obtain ⟨z0, z1, -⟩ := HA1.out) | ((with_reducible refine FE.mono ?_); rintro e w1 ⟨rfl, rfl⟩))
          | (go_at_call 19; (with_reducible refine (P1 _ HB1.out).mono ?_); rintro e w2 ⟨v2, rfl, h1, hb⟩; have HP2 := Lib.hid h1; have HB2 := Lib.hid (HB1.out.trans (hb.mono HB1.out.size)); have HA2 := Lib.hid (HA1.out.on hb); clear h1 hb P1)
          | (go_at_call 20; (with_reducible refine (D1 _ HB2.out).mono ?_); rintro e w3 ⟨v3, rfl, h1, hb⟩; have HB3 := Lib.hid (HB2.out.trans (hb.mono HB2.out.size)); have HD3 := Lib.hid (h1.holds (HDI.out.on HB3.out)); have HP3 := Lib.hid (HP2.out.on hb); have HA3 := Lib.hid (HA2.out.on hb); obtain ⟨z2, z3, -⟩ := HA3.out; clear h1 hb D1)
          | (go_at_call 21; (with_reducible refine (P2 _ HB3.out).mono ?_); rintro e w4 ⟨v4, rfl, h1, hb⟩; have HB4 := Lib.hid (HB3.out.trans (hb.mono HB3.out.size)); have HQ4 := Lib.hid h1; have HD4 := Lib.hid (HD3.out.on hb); have HP4 := Lib.hid (HP3.out.on hb); have HA4 := Lib.hid (HA3.out.on hb); clear h1 hb P2)
          | (go_at_call 17; first
              | ((with_reducible refine (S1 _ _ _ HP4.out HQ4.out).mono ?_); rintro e w5 ⟨rfl, hb⟩; have HB5 := Lib.hid (HB4.out.trans (hb.mono HB4.out.size)); have HD5 := Lib.hid (HD4.out.on hb); have HP5 := Lib.hid (HP4.out.on hb); have HA5 := Lib.hid (HA4.out.on hb); clear hb S1)
              | ((with_reducible refine (S2 _ _ _ HD6.out HE6.out).mono ?_); rintro e w7 ⟨rfl, hb⟩; have HB7 := Lib.hid (HB6.out.trans (hb.mono HB6.out.size)); have HD7 := Lib.hid (HD6.out.on hb); have HP7 := Lib.hid (HP6.out.on hb); have HA7 := Lib.hid (HA6.out.on hb); clear hb S2))
          | (go_at_call 22; (with_reducible refine (D2 _ HB5.out).mono ?_); rintro e w6 ⟨v6, rfl, h1, hb⟩; have HB6 := Lib.hid (HB5.out.trans (hb.mono HB5.out.size)); have HE6 := Lib.hid (h1.holds (HDI.out.on HB6.out)); have HD6 := Lib.hid (HD5.out.on hb); have HP6 := Lib.hid (HP5.out.on hb); have HA6 := Lib.hid (HA5.out.on hb); clear h1 hb D2)
          | (go_at_call 23; first
              | ((with_reducible refine (F1 _ HB7.out).mono ?_); rintro e w8 ⟨rfl, hb⟩; have HB8 := Lib.hid (HB7.out.trans (hb.mono HB7.out.size)); have HD8 := Lib.hid (HD7.out.on hb); have HP8 := Lib.hid (HP7.out.on hb); have HA8 := Lib.hid (HA7.out.on hb); obtain ⟨z4, z5, -⟩ := HA8.out; clear hb F1)
              | ((with_reducible refine (F3 _ _ HP8.out).mono ?_); rintro e wa ⟨rfl, hb⟩; have HBa := Lib.hid (HB8.out.trans (hb.mono HB8.out.size)); have HDa := Lib.hid (HD8.out.on hb); clear hb F3)
              | ((with_reducible refine (F4 _ _ HDa.out).mono ?_); rintro e wb ⟨rfl, hb⟩; have HBb := Lib.hid (HBa.out.trans (hb.mono HBa.out.size)); clear hb F4))
          | (go_at_call 24; (with_reducible refine (F2 _ HB8.out).mono ?_); rintro e w9 ⟨rfl, rfl⟩; clear F2)
          | (go_at_call 9; (with_reducible refine (AW _ HBb.out).mono ?_); rintro e wc ⟨rfl, hb⟩; have HBc := Lib.hid (HBb.out.trans (hb.mono HBb.out.size)); clear hb))
  go_ret
  exact ⟨rfl, HBc.out⟩
end Go.Proofs.YtogkickaebmeoaaDoor.listsPutsw
