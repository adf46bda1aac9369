/-
  The walk of ListsOwners: for every slice of lists, every text and every list it returns true; nothing old turns. Condition: LaidP.
-/
import Derived.Test.YtogkickaebmeoaaDoorTAwake
import Derived.Test.YtogkickaebmeoaaDoorTOpen
import Derived.Test.YtogkickaebmeoaaDoorTFew
import Derived.Test.YtogkickaebmeoaaDoorTOwners2
import Derived.Test.YtogkickaebmeoaaDoorTLose2
namespace Go.Proofs.YtogkickaebmeoaaDoor.listsOwnersw
open Go.RowKit
theorem find_parts {M : List Lp} {n : Bs} : idxG M (nameIs n) = -1 ∨ ∃ (k : Nat) (q : Lp), idxG M (nameIs n) = k ∧ M[k]? = some q ∧ q.1.1 = n ∧ ∀ (j : Nat) y, j < k → M[j]? = some y → y.1.1 ≠ n := by
  cases h : M.findIdx? (nameIs n) with
  | none => exact .inl (by unfold idxG; rw [h])
  | some k =>
    obtain ⟨hk, h1, h2⟩ := List.findIdx?_eq_some_iff_getElem.1 h
    refine .inr ⟨k, M[k], by unfold idxG; rw [h], List.getElem?_eq_getElem hk, of_decide_eq_true h1, fun j y hj hy => ?_⟩
    obtain ⟨hj', e⟩ := List.getElem?_eq_some_iff.1 hy
    have := h2 j hj
    rw [e] at this
    intro e2
    exact this (decide_eq_true e2)
theorem lose_at {L M : List Lp} {n : Bs} {ps : List Bs} (h : M.map (·.1) = loseF L n ps) : idxG M (nameIs n) = -1 ∨ ∃ (k : Nat) (q : Lp) (m : List Bs), idxG M (nameIs n) = k ∧ M[k]? = some q ∧ q.1.2 = minusS m ps := by
  rcases find_parts (M := M) (n := n) with h0 | ⟨k, q, e1, e2, e3, e4⟩
  · exact .inl h0
  refine .inr ⟨k, q, ?_⟩
  have hk : (loseF L n ps)[k]? = some q.1 := by rw [← h, List.getElem?_map, e2]; rfl
  unfold loseF at hk h
  cases hf : L.findIdx? (nameIs n) with
  | none =>
    exfalso
    rw [hf] at hk
    dsimp only at hk
    rw [List.getElem?_map, Option.map_eq_some_iff] at hk
    obtain ⟨y, hy, hq⟩ := hk
    have := List.findIdx?_eq_none_iff.1 hf y (List.mem_of_getElem? hy)
    unfold nameIs at this
    rw [hq] at this
    simp at this
    exact this e3
  | some j =>
    rw [hf] at hk h
    dsimp only at hk h
    obtain ⟨hj, h1, h2⟩ := List.findIdx?_eq_some_iff_getElem.1 hf
    by_cases hkj : k = j
    · subst hkj
      rw [List.getElem?_set_self (by rw [List.length_map]; exact hj)] at hk
      exact ⟨_, e1, e2, by rw [← Option.some.inj hk]⟩
    · exfalso
      rw [List.getElem?_set_ne (Ne.symm hkj), List.getElem?_map, Option.map_eq_some_iff] at hk
      obtain ⟨y, hy, hq⟩ := hk
      obtain ⟨hk', ey⟩ := List.getElem?_eq_some_iff.1 hy
      rcases Nat.lt_or_gt_of_ne hkj with h3 | h3
      · have := h2 k h3
        rw [ey] at this
        exact this (decide_eq_true (by rw [hq]; exact e3))
      · have hm : (M.map (·.1))[j]? = some (n, minusS (pathsAt L j) ps) := by rw [h, List.getElem?_set_self (by rw [List.length_map]; exact hj)]
        rw [List.getElem?_map, Option.map_eq_some_iff] at hm
        obtain ⟨z, hz, ez⟩ := hm
        exact e4 j z h3 hz (by rw [ez])
theorem lose_len {L M : List Lp} {n : Bs} {ps : List Bs} (h : M.map (·.1) = loseF L n ps) : M.length = L.length := by
  have := congrArg List.length h
  rw [List.length_map] at this
  rw [this]
  unfold loseF
  split
  · rw [List.length_map]
  · rw [List.length_set, List.length_map]
theorem minus_len (l m : List Bs) : (minusS l m).length ≤ l.length := by unfold minusS; exact List.length_filter_le _ _
theorem paths_len {L : List Lp} {B : Nat} (h : ∀ q ∈ L, q.1.2.length ≤ B) (k : Nat) : (pathsAt L k).length ≤ B := by
  unfold pathsAt
  split
  · rename_i q hq; exact h q (List.mem_of_getElem? hq)
  · simp
theorem lose_mem {L M : List Lp} {n : Bs} {ps : List Bs} {B : Nat} (hB : ∀ q ∈ L, q.1.2.length ≤ B) (h : M.map (·.1) = loseF L n ps) : ∀ q ∈ M, q.1.2.length ≤ B := fun q hq => by
  have h1 : q.1 ∈ loseF L n ps := by rw [← h]; exact List.mem_map_of_mem hq
  unfold loseF at h1
  split at h1
  · obtain ⟨y, hy, e⟩ := List.mem_map.1 h1
    rw [← e]; exact hB y hy
  · rcases List.mem_or_eq_of_mem_set h1 with h2 | h2
    · obtain ⟨y, hy, e⟩ := List.mem_map.1 h2
      rw [← e]; exact hB y hy
    · rw [h2]; exact Nat.le_trans (minus_len _ _) (paths_len hB _)
theorem be_on {w V V' : World} (h : Below w.heap.size w V) (hb : Below V.heap.size V V') : Below w.heap.size w V' := h.trans (hb.mono h.size)
theorem f_on {w V V' : World} {b o b2 : Nat} {x y u : Value} {l : List Bs} (h : V.cell? ⟨b, o, none⟩ = some x ∧ V.cell? ⟨b2, 1, none⟩ = some y ∧ HoldT V u l ∧ Below w.heap.size w V) (hb : Below V.heap.size V V') :
    V'.cell? ⟨b, o, none⟩ = some x ∧ V'.cell? ⟨b2, 1, none⟩ = some y ∧ HoldT V' u l ∧ Below w.heap.size w V' :=
  ⟨(hb.cell (World.block_lt_of_cell? _ _ h.1)).trans h.1, (hb.cell (World.block_lt_of_cell? _ _ h.2.1)).trans h.2.1, h.2.2.1.on hb, be_on h.2.2.2 hb⟩
theorem f_dr {w V : World} {b o b2 : Nat} {x y u : Value} {l : List Bs} (h : V.cell? ⟨b, o, none⟩ = some x ∧ V.cell? ⟨b2, 1, none⟩ = some y ∧ HoldT V u l ∧ Below w.heap.size w V) :
    V.drew.cell? ⟨b, o, none⟩ = some x ∧ V.drew.cell? ⟨b2, 1, none⟩ = some y ∧ HoldT V.drew u l ∧ Below w.heap.size w V.drew := f_on h (Below.refl _ _).drew
set_option maxRecDepth 100000 in
set_option maxHeartbeats 8000000 in
theorem walk (w : World) (v : Value) (L : List Lp) (bl : L.length ≤ maxLen) (bs : ∀ p ∈ L, FitL p) (nm : ByteArray) (bn : nm.size ≤ 9223372036854775807) (p : Lp) (bp : FitL p ∧ HoldT w p.2 p.1.2) (h : HoldL w v L) (hL : LaidP w) :
    Calls Tryd.prog 6 #[v, .string nm, aggT p] w fun e' w' => e' = .returned (.bool true) ∧ Below w.heap.size w w' := by
  have AW := fun W (hb : Below w.heap.size w W) => awake13 W (hL.on hb)
  obtain ⟨⟨pn, pp⟩, pu⟩ := p
  have bf : pn.length ≤ maxLen ∧ pp.length ≤ maxLen ∧ ∀ q ∈ pp, q.length ≤ maxLen := bp.1
  have hp : HoldT w pu pp := bp.2
  obtain ⟨ua, un, uc, rfl⟩ := HoldT.form hp
  clear bp
  have B0 := (Below.refl w.heap.size w).alloc (Nat.le_refl _) (.cells #[.string (bsT pn), .slice ua un uc] 24)
  have B1 := B0.alloc B0.size (.cells #[.string (bsT pn), .slice ua un uc] 24)
  have HBX := Lib.hid (Box2.new w (.string (bsT pn)) (.slice ua un uc) 24)
  have HB1 := Lib.hid B1
  have HB0 := Lib.hid B0
  have b1 := box2 (w.alloc (.cells #[.string (bsT pn), .slice ua un uc] 24)) (.string (bsT pn)) (.slice ua un uc) 24
  rw [World.size_alloc] at b1
  have FX := few13_any _ [((pn, pp), .slice ua un uc)] _ (by unfold maxLen; simp) (fun y hy => by simp at hy; subst hy; exact bf) (hold1L b1.1 b1.2 (hp.on B1))
  have FE := few13_any v L _ bl bs (h.on B0)
  unfold FewPostL at FE FX
  have HH := Lib.hid h
  have HP := Lib.hid hp
  have HA1 := Lib.hid (HBX.out.on ((Below.refl (w.alloc (.cells #[.string (bsT pn), .slice ua un uc] 24)).heap.size (w.alloc (.cells #[.string (bsT pn), .slice ua un uc] 24))).alloc (Nat.le_refl _) (.cells #[.string (bsT pn), .slice ua un uc] 24)))
  obtain ⟨a, c, b, o, rfl, -, -, -⟩ := h.2
  clear h hL bl bs bf B0 B1 b1 hp
  unfold aggT
  try dsimp only
  try dsimp only at FX
  by_cases hf : FewL L
  case neg =>
    rw [fewL_no hf] at FE
    clear hf HH HP FX
    generalize L.length = n at *
    generalize bsT pn = X at *
    obtain ⟨x0, x1, -⟩ := HBX.out
    go_enter Tryd.func6, Tryd.ntmps6
    go_wp2_with (first
          | (go_at_call 8; (with_reducible refine FE.mono ?_); rintro e w1 ⟨rfl, rfl⟩)
          | (go_at_call 9; refine (AW _ HB0.out).mono ?_; rintro e w2 ⟨rfl, hb⟩; have HB9 := Lib.hid (HB0.out.trans (hb.mono HB0.out.size)); clear hb))
    go_ret
    exact ⟨rfl, HB9.out⟩
  rw [fewL_yes hf] at FE
  by_cases hfx : FewL [((pn, pp), .slice ua un uc)]
  case neg =>
    rw [fewL_no hfx] at FX
    clear hfx hf HH HP
    generalize L.length = n at *
    generalize bsT pn = X at *
    obtain ⟨x0, x1, -⟩ := HBX.out
    go_enter Tryd.func6, Tryd.ntmps6
    go_wp2_with (first
          | (go_at_call 8; first | ((with_reducible refine FX.mono ?_); rintro e w1 ⟨rfl, rfl⟩) | ((with_reducible refine FE.mono ?_); rintro e w1 ⟨rfl, rfl⟩))
          | (go_at_call 9; refine (AW _ HB1.out).mono ?_; rintro e w2 ⟨rfl, hb⟩; have HB9 := Lib.hid (HB1.out.trans (hb.mono HB1.out.size)); clear hb))
    go_ret
    exact ⟨rfl, HB9.out⟩
  rw [fewL_yes hfx] at FX
  by_cases hn3 : 300 < nm.size
  · clear hfx hf HH HP
    generalize L.length = n at *
    generalize bsT pn = X at *
    obtain ⟨x0, x1, -⟩ := HBX.out
    go_enter Tryd.func6, Tryd.ntmps6
    go_wp2_with (first
          | (go_at_call 8; first | ((with_reducible refine FX.mono ?_); rintro e w1 ⟨rfl, rfl⟩) | ((with_reducible refine FE.mono ?_); rintro e w1 ⟨rfl, rfl⟩))
          | (go_at_call 9; refine (AW _ HB1.out).mono ?_; rintro e w2 ⟨rfl, hb⟩; have HB9 := Lib.hid (HB1.out.trans (hb.mono HB1.out.size)); clear hb))
    go_ret
    exact ⟨rfl, HB9.out⟩
  have hln := hf.1
  have hpp : pp.length ≤ 70 := (hfx.2.1 _ (by simp : ((pn, pp), Value.slice ua un uc) ∈ [((pn, pp), Value.slice ua un uc)])).2
  have hlp : ∀ q ∈ L, q.1.2.length ≤ 90000 := fun q hq => by have := (hf.2.1 q hq).2; omega
  have hlq : ∀ q ∈ L, q.1.1.length ≤ 9000000 ∧ q.1.2.length ≤ 90000 := fun q hq => by have := hf.2.1 q hq; omega
  have LA := fun W (hb : Below w.heap.size w W) => lose_any _ (.slice ua un uc) L pp (by omega) hlp (by omega) (bsT pn) W (HH.out.on hb) (HP.out.on hb)
  have LR := fun W (hb : Below w.heap.size w W) => lose_ref _ (.slice ua un uc) L pp (by omega) hlp (by omega) (bsT pn) W (HH.out.on hb) (HP.out.on hb)
  have OA := fun W (hb : Below w.heap.size w W) => owners_any _ L (by omega) hlq nm W (HH.out.on hb)
  have OR := fun W (hb : Below w.heap.size w W) => owners_ref _ L (by omega) hlq nm W (HH.out.on hb)
  have hol := own_len L nm.data.toList
  have S2 := fun u1 u2 W h1 h2 => same2_below u1 u2 (ownN L nm.data.toList) (by omega) W h1 h2
  have S13 := fun u1 u2 (M1 M2 : List Lp) W (e1 : M1.map (·.1) = loseF L pn pp) (e2 : M2.map (·.1) = loseF L pn pp) h1 h2 => same13_ref u1 u2 M1 M2 (e1.trans e2.symm) (by rw [lose_len e1]; omega) (lose_mem hlp e1) W h1 h2
  have FA := fun u (M : List Lp) W (e : M.map (·.1) = loseF L pn pp) (h : HoldL W u M) => find13_any u M (by rw [lose_len e]; omega) (bsT pn) W h
  have HLN := Lib.hid (fun (M : List Lp) (e : M.map (·.1) = loseF L pn pp) => lose_len e)
  have HAT := Lib.hid (fun (M : List Lp) (e : M.map (·.1) = loseF L pn pp) => lose_at e)
  have HLM := Lib.hid (fun (M : List Lp) (e : M.map (·.1) = loseF L pn pp) => lose_mem hlp e)
  have MN := fun u l W (hl : l.length ≤ 90000) (h : HoldT W u l) (hb : Below w.heap.size w W) => minus_ref u (.slice ua un uc) l pp hl (by omega) W h (HP.out.on hb)
  rw [bytesOf] at LA LR FA
  unfold LosePost at LA LR
  unfold OwPost at OA OR
  unfold TPost at MN
  generalize ownN L nm.data.toList = ON at *
  generalize loseF L pn pp = LF at *
  clear hf hfx HH HP hlp hlq hol
  generalize L.length = n at *
  generalize bsT pn = X at *
  obtain ⟨x0, x1, -⟩ := HBX.out
  go_enter Tryd.func6, Tryd.ntmps6
  go_wp2_with (first
          | (go_at_call 8; first | ((with_reducible refine FX.mono ?_); rintro e w1 ⟨rfl, rfl⟩; obtain ⟨z0, z1, -⟩ := HA1.out) | ((with_reducible refine FE.mono ?_); rintro e w1 ⟨rfl, rfl⟩))
          | (go_at_call 25; (with_reducible refine (LA _ HB1.out).mono ?_); rintro e w2 ⟨v2, M2, rfl, h1, hm2, hb⟩; have HM2 := Lib.hid hm2; have HP2 := Lib.hid h1; have HB2 := Lib.hid (HB1.out.trans (hb.mono HB1.out.size)); have HA2 := Lib.hid (HA1.out.on hb); clear h1 hb LA hm2)
          | (go_at_call 27; (with_reducible refine (OA _ HB2.out).mono ?_); rintro e w3 ⟨v3, rfl, h1, hb⟩; have HB3 := Lib.hid (HB2.out.trans (hb.mono HB2.out.size)); have HO3 := Lib.hid h1.holds; have HP3 := Lib.hid (HP2.out.on hb); have HA3 := Lib.hid (HA2.out.on hb); clear h1 hb OA)
          | (go_at_call 28; (with_reducible refine (OR _ HB3.out).mono ?_); rintro e w4 ⟨v4, rfl, h1, hb⟩; have HB4 := Lib.hid (HB3.out.trans (hb.mono HB3.out.size)); have HO4 := Lib.hid (HO3.out.on hb); have HQ4 := Lib.hid h1.holds; have HP4 := Lib.hid (HP3.out.on hb); have HA4 := Lib.hid (HA3.out.on hb); clear h1 hb OR)
          | (go_at_call 26; (with_reducible refine (S2 _ _ _ HO4.out HQ4.out).mono ?_); rintro e w5 ⟨rfl, hb⟩; have HB5 := Lib.hid (HB4.out.trans (hb.mono HB4.out.size)); have HP5 := Lib.hid (HP4.out.on hb); have HA5 := Lib.hid (HA4.out.on hb); obtain ⟨z2, z3, -⟩ := HA5.out; clear hb S2)
          | (go_at_call 29; (with_reducible refine (LR _ HB5.out).mono ?_); rintro e w6 ⟨v6, M6, rfl, h1, hm6, hb⟩; have HM6 := Lib.hid hm6; have HB6 := Lib.hid (HB5.out.trans (hb.mono HB5.out.size)); have HQ6 := Lib.hid h1; have HP6 := Lib.hid (HP5.out.on hb); have HA6 := Lib.hid (HA5.out.on hb); clear h1 hb LR hm6)
          | (go_at_call 17; (with_reducible refine (S13 _ _ _ _ _ HM2.out HM6.out HP6.out HQ6.out).mono ?_); rintro e w7 ⟨rfl, hb⟩; have HB7 := Lib.hid (HB6.out.trans (hb.mono HB6.out.size)); have HP7 := Lib.hid (HP6.out.on hb); have HA7 := Lib.hid (HA6.out.on hb); obtain ⟨z4, z5, -⟩ := HA7.out; clear hb S13)
          | (go_at_call 23; (with_reducible refine (FA _ _ _ HM2.out HP7.out).mono ?_); rintro e w8 ⟨rfl, hb⟩; have HB8 := Lib.hid (HB7.out.trans (hb.mono HB7.out.size)); have HP8 := Lib.hid (HP7.out.on hb); have HA8 := Lib.hid (HA7.out.on hb); obtain ⟨z6, z7, -⟩ := HA8.out; clear hb FA; rcases HAT.out _ HM2.out with hat | ⟨k, q, m, hat, hq, hqm⟩ <;> rw [hat]))
  · clear HAT HLM MN HP8 HM2 HLN z4 z5 z2 z3 HA8 z6 z7
    have hs := HB8.out
    refine wp_region_held_drew (S := (fun V => Below w.heap.size w V)) (by kernel_rfl) ?_ (fun hHeld => ?_)
    · (try dsimp only); (first | assumption | exact hs | exact hs.drew | exact be_on (by assumption) (by assumption))
    refine heldYes 0 53 ?_ rfl (by kernel_rfl) (by kernel_rfl) (by kernel_rfl) (fun _ _ _ h => h) rfl (by assumption) ?_ ?_
    rotate_left
    · (intro w hSw; (try dsimp only at hSw); go_simp; (try with_reducible rfl))
    simp only [List.setIfInBounds_toArray, List.set_cons_zero, List.set_cons_succ]
    refine heldYes 1 54 ?_ rfl (by kernel_rfl) (by kernel_rfl) (by kernel_rfl) (fun _ _ _ h => h) rfl (by assumption) ?_ ?_
    rotate_left
    · (intro w hSw; (try dsimp only at hSw); go_simp; (try with_reducible rfl))
    simp only [List.setIfInBounds_toArray, List.set_cons_zero, List.set_cons_succ]
    refine heldYes 2 55 ?_ rfl (by kernel_rfl) (by kernel_rfl) (by kernel_rfl) (fun _ _ _ h => h) rfl (by assumption) ?_ ?_
    rotate_left
    · (intro w hSw; (try dsimp only at hSw); go_simp; (try with_reducible rfl))
    simp only [List.setIfInBounds_toArray, List.set_cons_zero, List.set_cons_succ]
    refine heldNo 3 56 rfl (by kernel_rfl) (by kernel_rfl) (by kernel_rfl) (fun _ _ _ h => h) rfl (by assumption) ?_
    simp only [List.setIfInBounds_toArray, List.set_cons_zero, List.set_cons_succ]
    refine heldNo 4 57 rfl (by kernel_rfl) (by kernel_rfl) (by kernel_rfl) (fun _ _ _ h => h) rfl (by assumption) ?_
    simp only [List.setIfInBounds_toArray, List.set_cons_zero, List.set_cons_succ]
    refine heldNo 5 58 rfl (by kernel_rfl) (by kernel_rfl) (by kernel_rfl) (fun _ _ _ h => h) rfl (by assumption) ?_
    simp only [List.setIfInBounds_toArray, List.set_cons_zero, List.set_cons_succ]
    refine heldNo 6 59 rfl (by kernel_rfl) (by kernel_rfl) (by kernel_rfl) (fun _ _ _ h => h) rfl (by assumption) ?_
    simp only [List.setIfInBounds_toArray, List.set_cons_zero, List.set_cons_succ]
    refine heldNo 7 60 rfl (by kernel_rfl) (by kernel_rfl) (by kernel_rfl) (fun _ _ _ h => h) rfl (by assumption) ?_
    simp only [List.setIfInBounds_toArray, List.set_cons_zero, List.set_cons_succ]
    refine heldNo 8 61 rfl (by kernel_rfl) (by kernel_rfl) (by kernel_rfl) (fun _ _ _ h => h) rfl (by assumption) ?_
    simp only [List.setIfInBounds_toArray, List.set_cons_zero, List.set_cons_succ]
    refine heldNo 9 62 rfl (by kernel_rfl) (by kernel_rfl) (by kernel_rfl) (fun _ _ _ h => h) rfl (by assumption) ?_
    simp only [List.setIfInBounds_toArray, List.set_cons_zero, List.set_cons_succ]
    refine heldNo 10 63 rfl (by kernel_rfl) (by kernel_rfl) (by kernel_rfl) (fun _ _ _ h => h) rfl (by assumption) ?_
    simp only [List.setIfInBounds_toArray, List.set_cons_zero, List.set_cons_succ]
    refine heldNo 11 64 rfl (by kernel_rfl) (by kernel_rfl) (by kernel_rfl) (fun _ _ _ h => h) rfl (by assumption) ?_
    simp only [List.setIfInBounds_toArray, List.set_cons_zero, List.set_cons_succ]
    refine heldNo 12 65 rfl (by kernel_rfl) (by kernel_rfl) (by kernel_rfl) (fun _ _ _ h => h) rfl (by assumption) ?_
    simp only [List.setIfInBounds_toArray, List.set_cons_zero, List.set_cons_succ]
    refine heldNo 13 66 rfl (by kernel_rfl) (by kernel_rfl) (by kernel_rfl) (fun _ _ _ h => h) rfl (by assumption) ?_
    simp only [List.setIfInBounds_toArray, List.set_cons_zero, List.set_cons_succ]
    refine heldNo 14 67 rfl (by kernel_rfl) (by kernel_rfl) (by kernel_rfl) (fun _ _ _ h => h) rfl (by assumption) ?_
    simp only [List.setIfInBounds_toArray, List.set_cons_zero, List.set_cons_succ]
    refine heldNo 15 68 rfl (by kernel_rfl) (by kernel_rfl) (by kernel_rfl) (fun _ _ _ h => h) rfl (by assumption) ?_
    simp only [List.setIfInBounds_toArray, List.set_cons_zero, List.set_cons_succ]
    refine heldNo 16 69 rfl (by kernel_rfl) (by kernel_rfl) (by kernel_rfl) (fun _ _ _ h => h) rfl (by assumption) ?_
    simp only [List.setIfInBounds_toArray, List.set_cons_zero, List.set_cons_succ]
    refine heldNo 17 70 rfl (by kernel_rfl) (by kernel_rfl) (by kernel_rfl) (fun _ _ _ h => h) rfl (by assumption) ?_
    simp only [List.setIfInBounds_toArray, List.set_cons_zero, List.set_cons_succ]
    refine heldNo 18 71 rfl (by kernel_rfl) (by kernel_rfl) (by kernel_rfl) (fun _ _ _ h => h) rfl (by assumption) ?_
    simp only [List.setIfInBounds_toArray, List.set_cons_zero, List.set_cons_succ]
    refine heldYes 19 72 ?_ rfl (by kernel_rfl) (by kernel_rfl) (by kernel_rfl) (fun _ _ _ h => h) rfl (by assumption) ?_ ?_
    rotate_left
    · (intro w hSw; (try dsimp only at hSw); go_simp; (try with_reducible rfl))
    simp only [List.setIfInBounds_toArray, List.set_cons_zero, List.set_cons_succ]
    refine heldYes 20 73 ?_ rfl (by kernel_rfl) (by kernel_rfl) (by kernel_rfl) (fun _ _ _ h => h) rfl (by assumption) ?_ ?_
    rotate_left
    · (intro w hSw; (try dsimp only at hSw); go_simp; (try with_reducible rfl))
    simp only [List.setIfInBounds_toArray, List.set_cons_zero, List.set_cons_succ]
    refine wpAnyH_ready (rs := [21]) (by kernel_rfl) (by simp) ?_
    refine AllReadyH.cons rfl (fun K hK => ?_) AllReadyH.nil
    go_simp
    go_at_call 9; refine (AW _ (by assumption)).mono ?_; rintro e w9 ⟨rfl, hb⟩
    refine hK.out _ _ ?_ (fun hHeld => ?_)
    · (try dsimp only); (first | assumption | exact hs | exact hs.drew | exact be_on (by assumption) (by assumption))
    clear hK K
    try simp only [Act.put, List.setIfInBounds_toArray, List.set_cons_zero, List.set_cons_succ]
    refine heldYes 22 75 ?_ rfl (by kernel_rfl) (by kernel_rfl) (by kernel_rfl) (fun _ _ _ h => h) rfl (by assumption) ?_ ?_
    rotate_left
    · (intro w hSw; (try dsimp only at hSw); go_simp; (try with_reducible rfl))
    simp only [List.setIfInBounds_toArray, List.set_cons_zero, List.set_cons_succ]
    refine heldYes 23 6 ?_ rfl (by kernel_rfl) (by kernel_rfl) (by kernel_rfl) (fun _ _ _ h => h) rfl (by assumption) ?_ ?_
    rotate_left
    · (intro w hSw; (try dsimp only at hSw); go_simp; (try with_reducible rfl))
    simp only [List.setIfInBounds_toArray, List.set_cons_zero, List.set_cons_succ]
    refine wpAnyH_done (by kernel_rfl) ?_ _
    have HB9 := Lib.hid hHeld
    clear hHeld
    go_wp2
    go_ret
    exact ⟨rfl, HB9.out⟩
  · have h8 := HP8.out
    have hQ8 := h8.1 q (List.mem_of_getElem? hq)
    obtain ⟨-, aa, ac, ab, ao, rfl, hac, haa, hacell⟩ := h8
    have hkM : k < M2.length := (List.getElem?_eq_some_iff.1 hq).1
    obtain ⟨rfl, -⟩ := haa (by omega)
    obtain ⟨-, c1⟩ := hacell k q hq
    have hl9 := HLM.out _ HM2.out q (List.mem_of_getElem? hq)
    have hmm : minusS q.1.2 pp = q.1.2 := by rw [hqm, minus_twice]
    have MQ := fun W h hb => MN q.2 q.1.2 W hl9 h hb
    rw [hmm] at MQ
    have hQ := hQ8
    obtain ⟨pa, pc, pb, po, hu, -⟩ := hQ8
    rw [hu] at MQ c1 hQ
    have hs := And.intro c1 (And.intro z7 (And.intro hQ HB8.out))
    have k0 : (0 : Int) ≤ (k : Int) := by omega
    have kn : ¬ (k : Int) < 0 := by omega
    have k1 : (k : Int) < (M2.length : Int) := by omega
    generalize q.1.2 = QL at *
    clear HAT HLM MN HP8 HP7 HP6 HP5 HP4 HP3 HP2 HM2 HM6 HLN z4 z5 z2 z3 HA8 z6 z7 hqm hmm hq hu hacell c1 hQ
    generalize M2.length = nM at *
    refine wp_region_held_drew (S := (fun V => V.cell? ⟨ab, ao + k * 2 + 1, none⟩ = some (.slice pa QL.length pc) ∧ V.cell? ⟨w.heap.size, 1, none⟩ = some (.slice ua un uc) ∧ HoldT V (.slice pa QL.length pc) QL ∧ Below w.heap.size w V)) (by kernel_rfl) ?_ (fun hHeld => ?_)
    · (try dsimp only); (first | assumption | exact hs | exact f_dr hs | exact f_on (by assumption) (by assumption))
    refine heldYes 0 53 ?_ rfl (by kernel_rfl) (by kernel_rfl) (by kernel_rfl) (fun _ _ _ h => h) rfl (by assumption) ?_ ?_
    rotate_left
    · (intro w hSw; (try dsimp only at hSw); go_simp; (try with_reducible rfl))
    simp only [List.setIfInBounds_toArray, List.set_cons_zero, List.set_cons_succ]
    refine heldYes 1 54 ?_ rfl (by kernel_rfl) (by kernel_rfl) (by kernel_rfl) (fun _ _ _ h => h) rfl (by assumption) ?_ ?_
    rotate_left
    · (intro w hSw; (try dsimp only at hSw); go_simp; (try with_reducible rfl))
    simp only [List.setIfInBounds_toArray, List.set_cons_zero, List.set_cons_succ]
    refine heldYes 2 55 ?_ rfl (by kernel_rfl) (by kernel_rfl) (by kernel_rfl) (fun _ _ _ h => h) rfl (by assumption) ?_ ?_
    rotate_left
    · (intro w hSw; (try dsimp only at hSw); go_simp; (try with_reducible rfl))
    simp only [List.setIfInBounds_toArray, List.set_cons_zero, List.set_cons_succ]
    refine heldYes 3 56 ?_ rfl (by kernel_rfl) (by kernel_rfl) (by kernel_rfl) (fun _ _ _ h => h) rfl (by assumption) ?_ ?_
    rotate_left
    · (intro w hSw; (try dsimp only at hSw); go_simp; (try with_reducible rfl))
    simp only [List.setIfInBounds_toArray, List.set_cons_zero, List.set_cons_succ]
    refine heldYes 4 57 ?_ rfl (by kernel_rfl) (by kernel_rfl) (by kernel_rfl) (fun _ _ _ h => h) rfl (by assumption) ?_ ?_
    rotate_left
    · (intro w hSw; (try dsimp only at hSw); go_simp; (try with_reducible rfl))
    simp only [List.setIfInBounds_toArray, List.set_cons_zero, List.set_cons_succ]
    refine heldYes 5 58 ?_ rfl (by kernel_rfl) (by kernel_rfl) (by kernel_rfl) (fun _ _ _ h => h) rfl (by assumption) ?_ ?_
    rotate_left
    · (intro w hSw; (try dsimp only at hSw); go_simp; (try with_reducible rfl))
    simp only [List.setIfInBounds_toArray, List.set_cons_zero, List.set_cons_succ]
    refine heldYes 6 59 ?_ rfl (by kernel_rfl) (by kernel_rfl) (by kernel_rfl) (fun _ _ _ h => h) rfl (by assumption) ?_ ?_
    rotate_left
    · (intro w hSw; (try dsimp only at hSw); go_simp; (try with_reducible rfl))
    simp only [List.setIfInBounds_toArray, List.set_cons_zero, List.set_cons_succ]
    refine heldYes 7 60 ?_ rfl (by kernel_rfl) (by kernel_rfl) (by kernel_rfl) (fun _ _ _ h => h) rfl (by assumption) ?_ ?_
    rotate_left
    · (intro w hSw; (try dsimp only at hSw); go_simp; (try with_reducible rfl))
    simp only [List.setIfInBounds_toArray, List.set_cons_zero, List.set_cons_succ]
    refine heldYes 8 61 ?_ rfl (by kernel_rfl) (by kernel_rfl) (by kernel_rfl) (fun _ _ _ h => h) rfl (by assumption) ?_ ?_
    rotate_left
    · (intro w hSw; (try dsimp only at hSw); go_simp; (try with_reducible rfl))
    simp only [List.setIfInBounds_toArray, List.set_cons_zero, List.set_cons_succ]
    refine heldYes 9 62 ?_ rfl (by kernel_rfl) (by kernel_rfl) (by kernel_rfl) (fun _ _ _ h => h) rfl (by assumption) ?_ ?_
    rotate_left
    · (intro w hSw; (try dsimp only at hSw); go_simp; (try with_reducible rfl))
    simp only [List.setIfInBounds_toArray, List.set_cons_zero, List.set_cons_succ]
    refine heldYes 12 65 ?_ rfl (by kernel_rfl) (by kernel_rfl) (by kernel_rfl) (fun _ _ _ h => h) rfl (by assumption) ?_ ?_
    rotate_left
    · (intro w hSw; (try dsimp only at hSw); go_simp; (try with_reducible rfl))
    simp only [List.setIfInBounds_toArray, List.set_cons_zero, List.set_cons_succ]
    refine heldYes 13 66 ?_ rfl (by kernel_rfl) (by kernel_rfl) (by kernel_rfl) (fun _ _ _ h => h) rfl (by assumption) ?_ ?_
    rotate_left
    · (intro w hSw; (try dsimp only at hSw); go_simp; (try with_reducible rfl))
    simp only [List.setIfInBounds_toArray, List.set_cons_zero, List.set_cons_succ]
    refine heldYes 14 67 ?_ rfl (by kernel_rfl) (by kernel_rfl) (by kernel_rfl) (fun _ _ _ h => h) rfl (by assumption) ?_ ?_
    rotate_left
    · (intro w hSw; (try dsimp only at hSw); go_simp; (try with_reducible rfl))
    simp only [List.setIfInBounds_toArray, List.set_cons_zero, List.set_cons_succ]
    refine heldYes 15 68 ?_ rfl (by kernel_rfl) (by kernel_rfl) (by kernel_rfl) (fun _ _ _ h => h) rfl (by assumption) ?_ ?_
    rotate_left
    · (intro w hSw; (try dsimp only at hSw); go_simp; (try with_reducible rfl))
    simp only [List.setIfInBounds_toArray, List.set_cons_zero, List.set_cons_succ]
    refine heldYes 16 69 ?_ rfl (by kernel_rfl) (by kernel_rfl) (by kernel_rfl) (fun _ _ _ h => h) rfl (by assumption) ?_ ?_
    rotate_left
    · (intro w hSw; (try dsimp only at hSw); go_simp; (try with_reducible rfl))
    simp only [List.setIfInBounds_toArray, List.set_cons_zero, List.set_cons_succ]
    refine heldYes 17 70 ?_ rfl (by kernel_rfl) (by kernel_rfl) (by kernel_rfl) (fun _ _ _ h => h) rfl (by assumption) ?_ ?_
    rotate_left
    · (intro w hSw; (try dsimp only at hSw); go_simp; (try with_reducible rfl))
    simp only [List.setIfInBounds_toArray, List.set_cons_zero, List.set_cons_succ]
    refine wpAnyH_ready (rs := [10]) (by kernel_rfl) (by simp) ?_
    refine AllReadyH.cons rfl (fun K hK => ?_) AllReadyH.nil
    go_simp
    go_at_call 30; (with_reducible refine (MQ _ (by have hS := ‹_ ∧ _ ∧ HoldT _ _ _ ∧ Below w.heap.size w _›; exact hS.2.2.1) (by have hS := ‹_ ∧ _ ∧ HoldT _ _ _ ∧ Below w.heap.size w _›; exact hS.2.2.2)).mono ?_); rintro e w9 ⟨v9, rfl, h1, hb⟩; obtain ⟨va, vc, vb, vo, rfl, -⟩ := h1.holds; clear h1
    refine hK.out _ _ ?_ (fun hHeld => ?_)
    · (try dsimp only); (first | assumption | exact hs | exact f_dr hs | exact f_on (by assumption) (by assumption))
    clear hK K
    try simp only [Act.put, List.setIfInBounds_toArray, List.set_cons_zero, List.set_cons_succ]
    refine heldYes 11 64 ?_ rfl (by kernel_rfl) (by kernel_rfl) (by kernel_rfl) (fun _ _ _ h => h) rfl (by assumption) ?_ ?_
    rotate_left
    · (intro w hSw; (try dsimp only at hSw); go_simp; (try with_reducible rfl))
    simp only [List.setIfInBounds_toArray, List.set_cons_zero, List.set_cons_succ]
    refine heldYes 18 71 ?_ rfl (by kernel_rfl) (by kernel_rfl) (by kernel_rfl) (fun _ _ _ h => h) rfl (by assumption) ?_ ?_
    rotate_left
    · (intro w hSw; (try dsimp only at hSw); go_simp; (try with_reducible rfl))
    simp only [List.setIfInBounds_toArray, List.set_cons_zero, List.set_cons_succ]
    refine heldYes 19 72 ?_ rfl (by kernel_rfl) (by kernel_rfl) (by kernel_rfl) (fun _ _ _ h => h) rfl (by assumption) ?_ ?_
    rotate_left
    · (intro w hSw; (try dsimp only at hSw); go_simp; (try with_reducible rfl))
    simp only [List.setIfInBounds_toArray, List.set_cons_zero, List.set_cons_succ]
    refine heldYes 20 73 ?_ rfl (by kernel_rfl) (by kernel_rfl) (by kernel_rfl) (fun _ _ _ h => h) rfl (by assumption) ?_ ?_
    rotate_left
    · (intro w hSw; (try dsimp only at hSw); go_simp; (try with_reducible rfl))
    simp only [List.setIfInBounds_toArray, List.set_cons_zero, List.set_cons_succ]
    refine wpAnyH_ready (rs := [21]) (by kernel_rfl) (by simp) ?_
    refine AllReadyH.cons rfl (fun K hK => ?_) AllReadyH.nil
    go_simp
    go_at_call 9; refine (AW _ (by have hS := ‹_ ∧ _ ∧ HoldT _ _ _ ∧ Below w.heap.size w _›; exact hS.2.2.2)).mono ?_; rintro e wa ⟨rfl, hb⟩
    refine hK.out _ _ ?_ (fun hHeld => ?_)
    · (try dsimp only); (first | assumption | exact hs | exact f_dr hs | exact f_on (by assumption) (by assumption))
    clear hK K
    try simp only [Act.put, List.setIfInBounds_toArray, List.set_cons_zero, List.set_cons_succ]
    refine heldYes 22 75 ?_ rfl (by kernel_rfl) (by kernel_rfl) (by kernel_rfl) (fun _ _ _ h => h) rfl (by assumption) ?_ ?_
    rotate_left
    · (intro w hSw; (try dsimp only at hSw); go_simp; (try with_reducible rfl))
    simp only [List.setIfInBounds_toArray, List.set_cons_zero, List.set_cons_succ]
    refine heldYes 23 6 ?_ rfl (by kernel_rfl) (by kernel_rfl) (by kernel_rfl) (fun _ _ _ h => h) rfl (by assumption) ?_ ?_
    rotate_left
    · (intro w hSw; (try dsimp only at hSw); go_simp; (try with_reducible rfl))
    simp only [List.setIfInBounds_toArray, List.set_cons_zero, List.set_cons_succ]
    refine wpAnyH_done (by kernel_rfl) ?_ _
    have HB9 := Lib.hid hHeld.2.2.2
    clear hHeld
    go_wp2
    go_ret
    exact ⟨rfl, HB9.out⟩
end Go.Proofs.YtogkickaebmeoaaDoor.listsOwnersw
