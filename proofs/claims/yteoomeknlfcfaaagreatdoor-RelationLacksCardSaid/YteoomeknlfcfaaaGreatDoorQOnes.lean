/-
  The reference's Join, All: what each returns; nothing old turns. The reference's All of groups: what it returns; nothing old turns. The reference's SameList, Same of equal lists, Ones, List: what each returns; nothing old turns. The reference's Ones and List: what each returns; nothing old turns.
-/
import Derived.Test.YteoomeknlfcfaaaGreatDoorQAwake
import Derived.Test.YteoomeknlfcfaaaGreatDoorQParse
import Derived.Test.YteoomeknlfcfaaaGreatDoorAtB
import Derived.Laws.StructEq
import Derived.Deep.QuietTactic
import Derived.BigQuiet
import Derived.Deep.RegionHeld3
namespace Go.Proofs.YteoomeknlfcfaaaGreatDoor
open Go.RowKit
theorem join_snocQ (sep x : Bs) : ∀ (ps : List Bs), ps ≠ [] → Lib.join (ps ++ [x]) sep = Lib.join ps sep ++ (sep ++ x)
  | [], h => absurd rfl h
  | [p], _ => by
    have : [p] ++ [x] = p :: x :: [] := rfl
    rw [this, join_two, Lib.join_one, Lib.join_one]
  | p :: q :: ps, _ => by
    have ih := join_snocQ sep x (q :: ps) (by simp)
    have e : (p :: q :: ps) ++ [x] = p :: q :: (ps ++ [x]) := rfl
    have e2 : (q :: ps) ++ [x] = q :: (ps ++ [x]) := rfl
    rw [e, join_two, ← e2, ih, join_two]
    simp
theorem take_snocQ {α : Type} {l : List α} {k : Nat} {x : α} (h : l[k]? = some x) : l.take (k + 1) = l.take k ++ [x] := by
  rw [List.take_add_one, h]; rfl
set_option maxRecDepth 100000 in
set_option maxHeartbeats 8000000 in
theorem join6_any (sep : ByteArray) (hsep : sep.size ≤ 10) (v : Value) (ls : List Bs) (hl : ls.length ≤ 90000) (hs : ∀ p ∈ ls, p.length ≤ 10000000) (w : World) (h : HoldT w v ls) :
    Calls Tryz.prog 45 #[v, .string sep] w fun e w' => e = .returned (.string (bsT (Lib.join ls sep.data.toList))) ∧ w = w' := by
  obtain ⟨a, c, b, o, rfl, hc, ha, hcell⟩ := h
  have HC := Lib.hid hcell
  have HS := Lib.hid hs
  have HJL : Hid (∀ k, (Lib.join (ls.take k) sep.data.toList).length ≤ 90000 * 10000010) := Lib.hid (fun k => by
    have h1 := joinM_len sep.data.toList 10000000 (ls.take k) (fun p hp => hs p (List.mem_of_mem_take hp))
    have h2 : (ls.take k).length ≤ 90000 := Nat.le_trans (List.length_take_le' _ _) hl
    have h3 : (ls.take k).length * (10000000 + sep.data.toList.length) ≤ 90000 * 10000010 := Nat.mul_le_mul h2 (by rw [← sizeOf]; omega)
    omega)
  obtain ⟨n, hN⟩ : ∃ n, ls.length = n := ⟨_, rfl⟩
  rw [hN] at hc ha hl ⊢
  have HN := Lib.hid hN
  clear hcell hN hs
  go_enter Tryz.func45, Tryz.ntmps45
  go_wp2
  go_loop [5, 6] (fun z i => ∃ (k : Nat) (S : ByteArray), k ≤ n ∧ i = .int .i64 k ∧ z = .string S ∧ S.size ≤ 900000900000 ∧ Hid (S.data.toList = Lib.join (ls.take k) sep.data.toList)) (fun _ i => n - (intOf i).toNat)
  case atStart => exact ⟨0, ⟨#[]⟩, by omega, rfl, rfl, by decide, Lib.hid rfl⟩
  case round =>
    obtain ⟨k, S, hk, rfl, rfl, hS, HZ⟩ := hrel
    by_cases hlt : k < n
    · obtain ⟨rfl, hbw⟩ := ha (by omega)
      obtain ⟨p, hp⟩ : ∃ p, ls[k]? = some p := ⟨_, List.getElem?_eq_getElem (by rw [HN.out]; exact hlt)⟩
      have c0 := HC.out k p hp
      have hpl := HS.out p (List.mem_of_getElem? hp)
      have hj := HJL.out (k + 1)
      have hts := take_snocQ hp
      obtain ⟨P, hP⟩ : ∃ P : ByteArray, (⟨p.toArray⟩ : ByteArray) = P := ⟨_, rfl⟩
      have hPL : P.data.toList = p := by rw [← hP]
      have hPs : P.size ≤ 10000000 := by rw [sizeOf, hPL]; exact hpl
      rw [hP] at c0
      by_cases h0 : k = 0
      · subst h0
        have HZ2 : Hid ((S ++ P).data.toList = Lib.join (ls.take (0 + 1)) sep.data.toList) := Lib.hid (by
          rw [hts, ByteArray.data_append, Array.toList_append, HZ.out, hPL]
          simp [Lib.join, List.intercalate])
        have hs2 : (S ++ P).size ≤ 900000900000 := by rw [sizeOf, HZ2.out]; omega
        have q3 : ¬ 9223372036854775807 < S.size + P.size := by omega
        rw [Nat.add_zero] at c0
        clear hp hP hPL hj hts hpl
        go_wp2
        go_round
        case rel => exact ⟨1, _, by omega, rfl, rfl, hs2, HZ2⟩
        case measure => simp [intOf]; omega
      · have hne : ls.take k ≠ [] := fun e => by
          have := congrArg List.length e
          rw [List.length_take, HN.out] at this
          simp at this; omega
        have HZ2 : Hid (((S ++ sep) ++ P).data.toList = Lib.join (ls.take (k + 1)) sep.data.toList) := Lib.hid (by
          rw [hts, join_snocQ _ _ _ hne, ByteArray.data_append, Array.toList_append, ByteArray.data_append, Array.toList_append, HZ.out, hPL, List.append_assoc])
        have hs2 : ((S ++ sep) ++ P).size ≤ 900000900000 := by rw [sizeOf, HZ2.out]; omega
        have q2 : ¬ 9223372036854775807 < S.size + sep.size := by omega
        have q4 : (S ++ sep).size = S.size + sep.size := ByteArray.size_append
        have q3 : ¬ 9223372036854775807 < S.size + sep.size + P.size := by omega
        have hk0 : 0 < k := by omega
        clear hp hP hPL hj hts hpl hne h0
        go_wp2
        go_round
        case rel => exact ⟨k + 1, _, by omega, by go_num, rfl, hs2, HZ2⟩
        case measure => simp [intOf]; omega
    · obtain rfl : k = n := by omega
      have HE : Hid (bsT (Lib.join ls sep.data.toList) = S) := Lib.hid (by
        have := HZ.out
        rw [List.take_of_length_le (by rw [HN.out]; omega)] at this
        rw [← this])
      clear hlt
      go_wp2
      go_ret
      exact ⟨by rw [HE.out]; rfl, rfl⟩
end Go.Proofs.YteoomeknlfcfaaaGreatDoor
namespace Go.Proofs.YteoomeknlfcfaaaGreatDoor
open Go.RowKit
theorem long_miss {l : List Gv} (h : ∀ (j : Nat) y, l[j]? = some y → longG y.1 = false) : (fsts l).any longG = false := by
  rw [List.any_eq_false]
  intro g hg
  obtain ⟨x, hx, rfl⟩ := List.mem_map.1 hg
  obtain ⟨j, hj⟩ := List.mem_iff_getElem?.1 hx
  rw [h j x hj]; simp
theorem long_hit {l : List Gv} {k : Nat} {x : Gv} (h : l[k]? = some x) (hb : longG x.1 = true) : (fsts l).any longG = true := List.any_eq_true.2 ⟨x.1, List.mem_map_of_mem (List.mem_of_getElem? h), hb⟩
theorem all_takeQ {g : List Rl} (h : ∀ (j : Nat) y, g[j]? = some y → rightR y = true) : g.all rightR = true := by
  rw [List.all_eq_true]
  intro y hy
  obtain ⟨j, hj⟩ := List.mem_iff_getElem?.1 hy
  exact h j y hj
theorem all_badQ {g : List Rl} {k : Nat} {x : Rl} (h : g[k]? = some x) (hr : rightR x = false) : g.all rightR = false := by
  rw [List.all_eq_false]
  exact ⟨x, List.mem_of_getElem? h, by rw [hr]; simp⟩
theorem OwnT.formQ {w : World} {B : Nat} {v : Value} {ls : List Bs} (h : OwnT w B v ls) : ∃ a c, v = .slice a ls.length c := by
  obtain ⟨a, c, b, o, e, _⟩ := h.holds; exact ⟨a, c, e⟩
theorem OwnT.onQ {w w' : World} {B : Nat} {v : Value} {ls : List Bs} (h : OwnT w B v ls) (hb : Below w.heap.size w w') : OwnT w' B v ls := World.ownsRow.kept h (grownV hb) (by cases v.ownBlock <;> simp)
set_option maxRecDepth 100000 in
set_option maxHeartbeats 16000000 in
theorem allE_ref (v : Value) (l : List Gv) (hl : l.length ≤ 500) (hs : SmallG l) (w : World) (h : HoldGs w v l) : Calls Tryz.prog 18 #[v] w (TwoP (allE (fsts l)) w) := by
  obtain ⟨i0, hi, hz0, hz1, hz2'⟩ := info_parts infoT
  obtain ⟨a, c, b, o, rfl, hc, ha, hcell⟩ := h.parts
  have hfl : (fsts l).length = l.length := List.length_map ..
  have HE : Hid (allE (fsts l) = if decide (64 < l.length) || (fsts l).any longG then ([], 22) else if (fsts l).any badG then ([], 1) else (textA (fsts l), 0)) := Lib.hid (by unfold allE; rw [hfl])
  have HC := Lib.hid hcell
  have HG := Lib.hid h
  have HS := Lib.hid hs
  obtain ⟨n, hN⟩ : ∃ n, l.length = n := ⟨_, rfl⟩
  rw [hN] at hc ha hl HE ⊢
  have HN := Lib.hid hN
  clear hcell hN h hs hfl
  have H22 : Hid ((decide (64 < n) = true ∨ (fsts l).any longG = true) → ∀ w', Below w.heap.size w w' → TwoP (allE (fsts l)) w (.returned (.tuple #[.string ⟨#[]⟩, .int .i64 22])) w') := Lib.hid (fun hq w' hb => ⟨by rw [HE.out, if_pos (by rcases hq with e | e <;> rw [e] <;> simp)], hb⟩)
  have H1 : Hid (decide (64 < n) = false → (fsts l).any longG = false → (fsts l).any badG = true → ∀ w', Below w.heap.size w w' → TwoP (allE (fsts l)) w (.returned (.tuple #[.string ⟨#[]⟩, .int .i64 1])) w') := Lib.hid (fun q1 q2 q3 w' hb => ⟨by rw [HE.out, if_neg (by rw [q1, q2]; simp), if_pos q3], hb⟩)
  have H0 : Hid (decide (64 < n) = false → (fsts l).any longG = false → (fsts l).any badG = false → ∀ R w', R = bsT (textA (fsts l)) → Below w.heap.size w w' → TwoP (allE (fsts l)) w (.returned (.tuple #[.string R, .int .i64 0])) w') := Lib.hid (fun q1 q2 q3 R w' hR hb => ⟨by rw [HE.out, if_neg (by rw [q1, q2]; simp), if_neg (by rw [q3]; simp), hR], hb⟩)
  clear HE
  go_enter Tryz.func18, Tryz.ntmps18
  go_wp2
  go_loop [4] (fun i => ∃ k : Nat, k ≤ n ∧ i = .int .i64 k ∧ Hid (∀ (j : Nat) y, j < k → l[j]? = some y → longG y.1 = false)) (fun i => n - (intOf i).toNat)
  case atStart => exact ⟨0, by omega, rfl, Lib.hid (fun j y hj => by omega)⟩
  case round =>
    obtain ⟨k, hk, rfl, H⟩ := hrel
    by_cases hlt : k < n
    · obtain ⟨rfl, hbw⟩ := ha (by omega)
      obtain ⟨⟨g0, sv⟩, hx⟩ : ∃ x, l[k]? = some x := ⟨_, List.getElem?_eq_getElem (by rw [HN.out]; exact hlt)⟩
      have hgx := HG.out.2 _ (List.mem_of_getElem? hx)
      have hsm := HS.out _ (List.mem_of_getElem? hx)
      have c0 := HC.out k _ hx
      dsimp only at c0 hgx hsm
      obtain ⟨sa, sc, -, -, hsv, -⟩ := hgx.parts
      subst hsv
      by_cases h64 : 64 < g0.length
      · have G := Lib.hid (H22.out (.inr (long_hit hx (by unfold longG; exact decide_eq_true h64))))
        have hsz := hsm.2
        generalize g0.length = gn at *
        clear hx hgx hsm H H1 H0
        go_wp2
        go_ret2
        exact G.out _ (Below.refl _ _)
      · have HX : Hid (∀ (j : Nat) y, j < k + 1 → l[j]? = some y → longG y.1 = false) := Lib.hid (fun j y hj hy => by
          by_cases e : j = k
          · subst e
            rw [hx] at hy; cases hy
            unfold longG; exact decide_eq_false h64
          · exact H.out j y (by omega) hy)
        have hsz := hsm.2
        generalize g0.length = gn at *
        clear hx hgx hsm H
        go_wp2
        go_round
        case rel => exact ⟨k + 1, by omega, by go_num, HX⟩
        case measure => simp [intOf]; omega
    · obtain rfl : k = n := by omega
      have HLG := Lib.hid (long_miss (fun j y hy => H.out j y (by have := (List.getElem?_eq_some_iff.1 hy).1; rw [HN.out] at this; exact this) hy))
      clear hlt H
      by_cases h64 : 64 < k
      · have G := Lib.hid (H22.out (.inl (decide_eq_true h64)))
        clear H1 H0
        go_wp2
        go_ret2
        exact G.out _ (Below.refl _ _)
      have G1 := Lib.hid (H1.out (decide_eq_false h64) HLG.out)
      have G0 := Lib.hid (H0.out (decide_eq_false h64) HLG.out)
      clear H1 H0 H22 HLG
      go_wp2
      go_loopw [5, 6] (fun u i wr => ∃ k' : Nat, k' ≤ k ∧ i = .int .i64 k' ∧ Hid (OwnT wr w.heap.size u ((fsts (l.take k')).map textG)) ∧ Hid (∀ (j : Nat) y, j < k' → l[j]? = some y → badG y.1 = false) ∧ Hid (Below w.heap.size w wr)) (fun _ i _ => k - (intOf i).toNat)
      case atStart => exact ⟨0, by omega, rfl, Lib.hid (OwnT.nil _ _), Lib.hid (fun j y hj => by omega), Lib.hid (Below.refl _ _)⟩
      case round =>
        obtain ⟨t, ht, rfl, HO, H, HB⟩ := hrel
        have hsz := HB.out.size
        obtain ⟨wo, rfl⟩ : ∃ wo : World, wo = wr := ⟨_, rfl⟩
        by_cases hlt : t < k
        · obtain ⟨rfl, hbw⟩ := ha (by omega)
          obtain ⟨⟨g0, sv⟩, hx⟩ : ∃ x, l[t]? = some x := ⟨_, List.getElem?_eq_getElem (by rw [HN.out]; exact hlt)⟩
          have hgx := HG.out.2 _ (List.mem_of_getElem? hx)
          have hsm := HS.out _ (List.mem_of_getElem? hx)
          have c0 := HC.out t _ hx
          dsimp only at c0 hgx hsm
          have HC0 : Hid (∀ W, Below w.heap.size w W → W.cell? ⟨b, o + t, none⟩ = some sv) := Lib.hid (fun W hW => (hW.cell (p := ⟨b, o + t, none⟩) hbw).trans c0)
          obtain ⟨sa, sc, sb, so, hsv, hsc, hsa, hscell⟩ := hgx.parts
          subst hsv
          have HIC := Lib.hid hscell
          have HSM := Lib.hid hsm
          obtain ⟨m, hM⟩ : ∃ m, g0.length = m := ⟨_, rfl⟩
          have hm500 : m ≤ 500 := by rw [← hM]; exact hsm.2
          rw [hM] at hsc hsa HC0
          have HM := Lib.hid hM
          have HX := Lib.hid hx
          clear hx hgx hsm c0 hscell hM
          go_wp2
          go_loopw [7, 8] (fun own i wr => ∃ q : Nat, q ≤ m ∧ i = .int .i64 q ∧ Hid (OwnT wr wo.heap.size own ((g0.take q).map textR)) ∧ Hid (∀ (j : Nat) y, j < q → g0[j]? = some y → rightR y = true) ∧ Hid (Below wo.heap.size wo wr)) (fun _ i _ => m - (intOf i).toNat)
          case atStart => exact ⟨0, by omega, rfl, Lib.hid (OwnT.nil _ _), Lib.hid (fun j y hj => by omega), Lib.hid (Below.refl _ _)⟩
          case round =>
            obtain ⟨q, hq, rfl, HO2, H2, HB2⟩ := hrel
            have HBW := Lib.hid (HB.out.trans (HB2.out.mono hsz))
            have hszw := HBW.out.size
            have hszo := HB2.out.size
            have c0 := HC0.out _ HBW.out
            by_cases hqm : q < m
            · obtain ⟨rfl, hsbw⟩ := hsa (by omega)
              obtain ⟨⟨p, z, y⟩, hf⟩ : ∃ f, g0[q]? = some f := ⟨_, List.getElem?_eq_getElem (by rw [HM.out]; exact hqm)⟩
              obtain ⟨d0, d1, d2⟩ := HIC.out q _ hf
              have hx3 := HSM.out.1 _ (List.mem_of_getElem? hf)
              dsimp only at d0 d1 d2 hx3
              rw [← HBW.out.cell (p := ⟨sb, so + q * 3, none⟩) hsbw] at d0
              rw [← HBW.out.cell (p := ⟨sb, so + q * 3 + 1, none⟩) hsbw] at d1
              rw [← HBW.out.cell (p := ⟨sb, so + q * 3 + 2, none⟩) hsbw] at d2
              have RR := fun W => right_ref (bsT p) (bsT z) (bsT y) (by rw [sizeOf, bytesOf]; omega) (by rw [sizeOf, bytesOf]; omega) W
              have TX := fun W => text_ref7 (bsT p) (bsT z) (bsT y) (by rw [sizeOf, bytesOf]; omega) (by rw [sizeOf, bytesOf]; omega) (by rw [sizeOf, bytesOf]; omega) W
              rw [bytesOf, bytesOf, bytesOf] at RR TX
              obtain ⟨T, hT⟩ : ∃ T : ByteArray, (⟨(textR (p, z, y)).toArray⟩ : ByteArray) = T := ⟨_, rfl⟩
              have HT : Hid (T.data.toList = textR (p, z, y)) := Lib.hid (by rw [← hT])
              rw [hT] at TX
              have HSN := map_snocQ textR hf
              have hlen : ((g0.take q).map textR).length = q := by rw [List.length_map, List.length_take, HM.out]; omega
              obtain ⟨L, hLL⟩ : ∃ L, (g0.take q).map textR = L := ⟨_, rfl⟩
              rw [hLL] at HO2 hlen HSN
              have HSN := Lib.hid HSN
              have HLEN := Lib.hid hlen
              obtain ⟨r, hr⟩ : ∃ r, rightR (p, z, y) = r := ⟨_, rfl⟩
              rw [hr] at RR
              have HF := Lib.hid hf
              generalize bsT p = P at *
              generalize bsT z = Z at *
              generalize bsT y = Y at *
              cases r
              · have HBAD : Hid (badG g0 = true) := Lib.hid (by unfold badG; rw [all_badQ HF.out hr]; simp)
                have G := Lib.hid (G1.out (bad_hit HX.out HBAD.out))
                clear hf hT hlen hx3 hLL hr TX HO2 H2 H
                go_wp2_with (go_at_call 14; (with_reducible refine (RR _).mono ?_); rintro e w4 ⟨rfl, hb⟩; have HB4 := Lib.hid (HBW.out.trans (hb.mono hszw)); clear hb RR)
                go_ret2
                exact G.out _ HB4.out
              · have H3 : Hid (∀ (j : Nat) y, j < q + 1 → g0[j]? = some y → rightR y = true) := Lib.hid (fun j y hj hy => by
                  by_cases e : j = q
                  · subst e; rw [HF.out] at hy; cases hy; exact hr
                  · exact H2.out j y (by omega) hy)
                clear hf hT hlen hx3 hLL hr H2
                go_wp2_with (first
                  | (go_at_call 14; (with_reducible refine (RR _).mono ?_); rintro e w4 ⟨rfl, hb⟩; have hb4 := HB2.out.trans (hb.mono hszo); have HB4 := Lib.hid hb4; have HBW4 := Lib.hid (HB.out.trans (hb4.mono hsz)); have c1 := HC0.out _ HBW4.out; have e0 := (hb.cell (p := ⟨sb, so + q * 3, none⟩) (Nat.lt_of_lt_of_le hsbw hszw)).trans d0; have e1 := (hb.cell (p := ⟨sb, so + q * 3 + 1, none⟩) (Nat.lt_of_lt_of_le hsbw hszw)).trans d1; have e2 := (hb.cell (p := ⟨sb, so + q * 3 + 2, none⟩) (Nat.lt_of_lt_of_le hsbw hszw)).trans d2; have HO4 := Lib.hid (OwnT.onQ HO2.out hb); clear hb hb4 RR d0 d1 d2 c0 HO2)
                  | (go_at_call 16; (with_reducible refine (TX _).mono ?_); rintro e w5 ⟨rfl, hb⟩; have HB5 := Lib.hid (HB4.out.trans (hb.mono HB4.out.size)); have HO5 := Lib.hid (OwnT.onQ HO4.out hb); have hz5 := HB5.out.size; clear hb TX)
                  | (at_builtin; refine wpList_append_own _ rfl _ _ 62 rfl wo.heap.size 9 i0 _ 1 16 Tryz.underlying62 hi hz0 hz1 hz2' rfl (by decide) _ _ _ rfl (World.ownsRow.alloc HO5.out _) ⟨w5.heap.size, 0, none⟩ 1 1 [.string T] rfl rfl (by intro j u hj; match j, hj with | 0, hj => simp at hj; subst hj; simp [Addr.add]) (by intro u hu; simp at hu; subst hu; rfl) (by rw [HLEN.out]; unfold maxLen; omega) (by rw [HLEN.out]; omega) (by simp; omega) ?_))
                intro v' w6 hown' hgrow _
                have HO6 : Hid (OwnT w6 wo.heap.size v' ((g0.take (q + 1)).map textR)) := Lib.hid (by rw [HSN.out]; exact OwnT.app HT.out hown')
                have HB6 : Hid (Below wo.heap.size wo w6) := Lib.hid (belowG HB5.out HO5.out hgrow (Nat.le_refl _) hz5)
                clear hown' hgrow
                go_wp2
                go_roundw
                case rel => exact ⟨q + 1, by omega, by go_num, HO6, H3, HB6⟩
                case measure => simp [intOf]; omega
            · obtain rfl : q = m := by omega
              have hall : g0.all rightR = true := all_takeQ (fun j y hy => H2.out j y (by have := (List.getElem?_eq_some_iff.1 hy).1; rw [HM.out] at this; exact this) hy)
              have HTK : Hid ((g0.take q).map textR = g0.map textR) := Lib.hid (by rw [List.take_of_length_le (by rw [HM.out]; omega)])
              have hown := HO2.out
              rw [HTK.out] at hown
              obtain ⟨oa, oc, hov⟩ := OwnT.formQ hown
              rw [List.length_map, HM.out] at hov
              subst hov
              by_cases h0 : q = 0
              · have G := Lib.hid (G1.out (bad_hit HX.out (by unfold badG; rw [HM.out, decide_eq_true h0]; rfl)))
                have e1 : ((q : Int) == 0) = true := by rw [h0]; rfl
                clear hown hall H2 H HO2 h0
                go_wp2
                go_ret2
                exact G.out _ HBW.out
              · have HNB : Hid (badG g0 = false) := Lib.hid (by unfold badG; rw [HM.out, decide_eq_false h0, hall]; rfl)
                have e1 : ((q : Int) == 0) = false := by rw [beq_eq_false_iff_ne]; omega
                have J := join6_any ⟨#[32, 124, 32]⟩ (by decide) _ (g0.map textR) (by rw [List.length_map, HM.out]; omega) (fun p hp => by
                  obtain ⟨x, hx, rfl⟩ := List.mem_map.1 hp
                  have := textR_len (HSM.out.1 x hx); omega) wr hown.holds
                obtain ⟨T, hT⟩ : ∃ T : ByteArray, bsT (Lib.join (g0.map textR) (ByteArray.mk #[32, 124, 32]).data.toList) = T := ⟨_, rfl⟩
                have HT : Hid (T.data.toList = textG g0) := Lib.hid (by rw [← hT]; rfl)
                rw [hT] at J
                have HNX : Hid (∀ (j : Nat) y, j < t + 1 → l[j]? = some y → badG y.1 = false) := Lib.hid (fun j y hj hy => by
                  by_cases e : j = t
                  · subst e; rw [HX.out] at hy; cases hy; exact HNB.out
                  · exact H.out j y (by omega) hy)
                have hsn : (fsts (l.take (t + 1))).map textG = (fsts (l.take t)).map textG ++ [textG g0] := by
                  rw [take_snocQ HX.out]; simp [fsts]
                have hlen : ((fsts (l.take t)).map textG).length = t := by rw [List.length_map, List.length_map, List.length_take, HN.out]; omega
                have HOW := Lib.hid (OwnT.onQ HO.out HB2.out)
                obtain ⟨L, hLL⟩ : ∃ L, (fsts (l.take t)).map textG = L := ⟨_, rfl⟩
                rw [hLL] at hsn hlen HOW
                have HSN := Lib.hid hsn
                have HLEN := Lib.hid hlen
                clear hown hall H2 H HO2 h0 hT hsn hlen hLL HO
                go_wp2_with (first
                  | (go_at_call 45; (with_reducible refine J.mono ?_); rintro e w4 ⟨rfl, rfl⟩; clear J)
                  | (at_builtin; refine wpList_append_own _ rfl _ _ 62 rfl w.heap.size 9 i0 _ 1 16 Tryz.underlying62 hi hz0 hz1 hz2' rfl (by decide) _ _ _ rfl (World.ownsRow.alloc HOW.out _) ⟨wr.heap.size, 0, none⟩ 1 1 [.string T] rfl rfl (by intro j u hj; match j, hj with | 0, hj => simp at hj; subst hj; simp [Addr.add]) (by intro u hu; simp at hu; subst hu; rfl) (by rw [HLEN.out]; unfold maxLen; omega) (by rw [HLEN.out]; omega) (by simp; omega) ?_))
                intro v' w6 hown' hgrow _
                have HO6 : Hid (OwnT w6 w.heap.size v' ((fsts (l.take (t + 1))).map textG)) := Lib.hid (by rw [HSN.out]; exact OwnT.app HT.out hown')
                have HB6 : Hid (Below w.heap.size w w6) := Lib.hid (belowG HBW.out HOW.out hgrow (Nat.le_refl _) hszw)
                clear hown' hgrow
                go_wp2
                go_roundw
                case rel => exact ⟨t + 1, by omega, by go_num, HO6, HNX, HB6⟩
                case measure => simp [intOf]; omega
        · obtain rfl : t = k := by omega
          have HTK : Hid ((fsts (l.take t)).map textG = (fsts l).map textG) := Lib.hid (by rw [List.take_of_length_le (by rw [HN.out]; omega)])
          have G := Lib.hid (G0.out (bad_miss (fun j y hy => H.out j y (by have := (List.getElem?_eq_some_iff.1 hy).1; rw [HN.out] at this; exact this) hy)))
          have hown := HO.out
          rw [HTK.out] at hown
          have J := join6_any ⟨#[44, 32]⟩ (by decide) _ ((fsts l).map textG) (by rw [List.length_map, List.length_map, HN.out]; omega) (fun p hp => by
            obtain ⟨g, hg, rfl⟩ := List.mem_map.1 hp
            obtain ⟨x, hx, rfl⟩ := List.mem_map.1 hg
            have hh := HS.out x hx
            have := textG_len hh.1 hh.2; omega) wo hown.holds
          clear hlt H hown HO
          go_wp2_with (go_at_call 45; (with_reducible refine J.mono ?_); rintro e w4 ⟨rfl, rfl⟩; clear J)
          go_ret2
          exact G.out _ _ (by unfold textA fsts; rw [List.map_map]) HB.out
end Go.Proofs.YteoomeknlfcfaaaGreatDoor
namespace Go.Proofs.YteoomeknlfcfaaaGreatDoor
open Go.RowKit
set_option maxRecDepth 100000 in
set_option maxHeartbeats 4000000 in
theorem sameQ_ref (u v : Value) (l : List Rl) (hl : l.length ≤ 90000) (w : World) (h1 : HoldQ w u l) (h2 : HoldQ w v l) : Calls Tryz.prog 24 #[u, v] w fun e w' => e = .returned (.bool true) ∧ ∃ q, w' = w.drewN q := by
  obtain ⟨a1, c1, b1, o1, rfl, hc1, ha1, hl1⟩ := h1.parts
  obtain ⟨a2, c2, b2, o2, rfl, hc2, ha2, hl2⟩ := h2.parts
  have H1 := Lib.hid hl1
  have H2 := Lib.hid hl2
  obtain ⟨n, hN⟩ : ∃ n, l.length = n := ⟨_, rfl⟩
  rw [hN] at hc1 ha1 hc2 ha2 hl ⊢
  have HN := Lib.hid hN
  clear hl1 hl2 hN h1 h2
  go_enter Tryz.func24, Tryz.ntmps24
  go_wp2
  go_loopw [5] (fun i wr => ∃ k : Nat, k ≤ n ∧ i = .int .i64 k ∧ Hid (∃ q, wr = w.drewN q)) (fun i _ => n - (intOf i).toNat)
  case atStart => exact ⟨0, by omega, rfl, Lib.hid ⟨0, rfl⟩⟩
  case round =>
    obtain ⟨k, hk, rfl, HQ⟩ := hrel
    by_cases hlt : k < n
    · obtain ⟨rfl, hbw1⟩ := ha1 (by omega)
      obtain ⟨rfl, hbw2⟩ := ha2 (by omega)
      obtain ⟨⟨t, m, u⟩, hx⟩ : ∃ x, l[k]? = some x := ⟨_, List.getElem?_eq_getElem (by rw [HN.out]; exact hlt)⟩
      obtain ⟨q, hw⟩ := HQ.out
      obtain ⟨d0, d1, d2⟩ := H1.out k _ hx
      obtain ⟨f0, f1, f2⟩ := H2.out k _ hx
      dsimp only at d0 d1 d2 f0 f1 f2
      rw [← World.cell?_drewN w q] at d0 d1 d2 f0 f1 f2
      rw [← hw] at d0 d1 d2 f0 f1 f2
      have HMM : Hid (∀ m', ∃ q, wr.drewN m' = w.drewN q) := Lib.hid (fun m' => ⟨q + m', by rw [hw, World.drewN_drewN]⟩)
      generalize bsT t = X at *
      generalize bsT m = Y at *
      generalize bsT u = Z at *
      have q0 := eqT X X
      rw [decide_eq_true rfl] at q0
      have q1 := eqT Y Y
      rw [decide_eq_true rfl] at q1
      have q2 := eqT Z Z
      rw [decide_eq_true rfl] at q2
      have j0 : (0 : Int) ≤ (k : Int) := by omega
      have j1 : (k : Int) < (n : Int) := by omega
      clear hx hw HQ
      go_wp2
      go_quiet (fail)
      go_wp2
      go_roundw
      case rel => exact ⟨k + 1, by omega, by go_num, Lib.hid (HMM.out _)⟩
      case measure => simp [intOf]; omega
    · obtain rfl : k = n := by omega
      clear hlt
      go_wp2
      go_ret
      exact ⟨rfl, HQ.out⟩
set_option maxRecDepth 100000 in
set_option maxHeartbeats 4000000 in
theorem sameG_ref (u v : Value) (L M : List Gv) (hLM : fsts L = fsts M) (hl : L.length ≤ 90000) (hp : ∀ p ∈ L, p.1.length ≤ 90000) (w : World) (h1 : HoldGs w u L) (h2 : HoldGs w v M) : Calls Tryz.prog 20 #[u, v] w fun e w' => e = .returned (.bool true) ∧ Below w.heap.size w w' := by
  have hlm : M.length = L.length := by have := congrArg List.length hLM; simpa [fsts] using this.symm
  obtain ⟨a1, c1, b1, o1, rfl, hc1, ha1, hl1⟩ := h1.parts
  obtain ⟨a2, c2, b2, o2, rfl, hc2, ha2, hl2⟩ := h2.parts
  have H1 := Lib.hid hl1
  have H2 := Lib.hid hl2
  have HI1 := Lib.hid h1.2
  have HI2 := Lib.hid h2.2
  have HPL := Lib.hid hp
  have HLM : Hid (∀ (k : Nat) p r, L[k]? = some p → M[k]? = some r → r.1 = p.1) := Lib.hid (fun k p r hp hr => by
    have := congrArg (fun l => l[k]?) hLM
    simp only [fsts, List.getElem?_map, hp, hr, Option.map_some, Option.some.injEq] at this
    exact this.symm)
  obtain ⟨n, hN⟩ : ∃ n, L.length = n := ⟨_, rfl⟩
  rw [hlm] at hc2 ha2 ⊢
  rw [hN] at hc1 ha1 hc2 ha2 hl hlm ⊢
  have HN := Lib.hid hN
  have HM := Lib.hid hlm
  clear hl1 hl2 hN hlm hLM hp h1 h2
  go_enter Tryz.func20, Tryz.ntmps20
  go_wp2
  go_loopw [5] (fun i wr => ∃ k : Nat, k ≤ n ∧ i = .int .i64 k ∧ Hid (Below w.heap.size w wr)) (fun i _ => n - (intOf i).toNat)
  case atStart => exact ⟨0, by omega, rfl, Lib.hid (Below.refl _ _)⟩
  case round =>
    obtain ⟨k, hk, rfl, HB⟩ := hrel
    have hsz := HB.out.size
    by_cases hlt : k < n
    · obtain ⟨rfl, hbw1⟩ := ha1 (by omega)
      obtain ⟨rfl, hbw2⟩ := ha2 (by omega)
      obtain ⟨⟨g0, sv⟩, hp⟩ : ∃ x, L[k]? = some x := ⟨_, List.getElem?_eq_getElem (by rw [HN.out]; exact hlt)⟩
      obtain ⟨⟨g1, tv⟩, hr⟩ : ∃ x, M[k]? = some x := ⟨_, List.getElem?_eq_getElem (by rw [HM.out]; exact hlt)⟩
      have he := HLM.out k _ _ hp hr
      have d0 := H1.out k _ hp
      have f0 := H2.out k _ hr
      have k1 := HI1.out _ (List.mem_of_getElem? hp)
      have k2 := HI2.out _ (List.mem_of_getElem? hr)
      have k3 := HPL.out _ (List.mem_of_getElem? hp)
      dsimp only at he d0 f0 k1 k2 k3
      subst he
      rw [← HB.out.cell (p := ⟨b1, o1 + k, none⟩) hbw1] at d0
      rw [← HB.out.cell (p := ⟨b2, o2 + k, none⟩) hbw2] at f0
      have SA := fun V (hb : Below w.heap.size w V) => (sameQ_ref sv tv g1 k3 V (HoldV.on k1 hb) (HoldV.on k2 hb)).mono (fun _ w' hp => (⟨hp.1, by obtain ⟨q, hq⟩ := hp.2; rw [hq]; exact belowQ (Below.refl _ _) q⟩ : _ ∧ Below V.heap.size V w'))
      obtain ⟨sa, sc, -, -, rfl, -⟩ := k1.parts
      obtain ⟨ta, tc, -, -, rfl, -⟩ := k2.parts
      generalize g1.length = gn at *
      have j0 : (0 : Int) ≤ (k : Int) := by omega
      have j1 : (k : Int) < (n : Int) := by omega
      clear hp hr k1 k2 k3 HLM HPL H1 H2 HI1 HI2 hbw1 hbw2
      have hs := And.intro d0 (And.intro f0 HB.out)
      go_wp2
      have BE := fun (V : World) (h : V.cell? ⟨b1, o1 + k, none⟩ = some (.slice sa gn sc) ∧ V.cell? ⟨b2, o2 + k, none⟩ = some (.slice ta gn tc) ∧ Below w.heap.size w V) => AtF.be (w := w) (l := [(⟨b1, o1 + k, none⟩, .slice sa gn sc), (⟨b2, o2 + k, none⟩, .slice ta gn tc)]) h
      go_region_held3 (fun V => V.cell? ⟨b1, o1 + k, none⟩ = some (.slice sa gn sc) ∧ V.cell? ⟨b2, o2 + k, none⟩ = some (.slice ta gn tc) ∧ Below w.heap.size w V)
        (first | assumption | exact hs | exact AtF.dr (w := w) (l := [(⟨b1, o1 + k, none⟩, .slice sa gn sc), (⟨b2, o2 + k, none⟩, .slice ta gn tc)]) hs | exact AtF.dr (w := w) (l := [(⟨b1, o1 + k, none⟩, .slice sa gn sc), (⟨b2, o2 + k, none⟩, .slice ta gn tc)]) (by assumption) | exact AtF.on (w := w) (l := [(⟨b1, o1 + k, none⟩, .slice sa gn sc), (⟨b2, o2 + k, none⟩, .slice ta gn tc)]) (by assumption) (by assumption) | exact AtF.al (w := w) (l := [(⟨b1, o1 + k, none⟩, .slice sa gn sc), (⟨b2, o2 + k, none⟩, .slice ta gn tc)]) (by assumption) _ | exact AtF.ald (w := w) (l := [(⟨b1, o1 + k, none⟩, .slice sa gn sc), (⟨b2, o2 + k, none⟩, .slice ta gn tc)]) (by assumption) _ | exact AtF.al (w := w) (l := [(⟨b1, o1 + k, none⟩, .slice sa gn sc), (⟨b2, o2 + k, none⟩, .slice ta gn tc)]) hs _ | exact AtF.ald (w := w) (l := [(⟨b1, o1 + k, none⟩, .slice sa gn sc), (⟨b2, o2 + k, none⟩, .slice ta gn tc)]) hs _)
        (((go_at_call 24; (with_reducible refine (SA _ (BE _ (by assumption))).mono ?_); rintro e w3 ⟨rfl, hb⟩)))
      all_goals
        rename_i hHeld
        have HB3 := Lib.hid (BE _ hHeld)
        clear hHeld
        go_wp2
        go_roundw
        case rel => exact ⟨k + 1, by omega, by go_num, HB3⟩
        case measure => simp [intOf]; omega
    · obtain rfl : k = n := by omega
      clear hlt
      go_wp2
      go_ret
      exact ⟨rfl, HB.out⟩
end Go.Proofs.YteoomeknlfcfaaaGreatDoor
namespace Go.Proofs.YteoomeknlfcfaaaGreatDoor
open Go.RowKit
theorem OwnQ.lit (w : World) (B : Nat) (P Q Z : ByteArray) (hB : B ≤ w.heap.size) : OwnQ (w.alloc (.cells #[.string P, .string Q, .string Z] 23)) B (.slice (some ⟨w.heap.size, 0, none⟩) 1 1) [(P.data.toList, Q.data.toList, Z.data.toList)] :=
  ⟨cellsQ_len _, rfl, .inr ⟨w.heap.size, 1, #[.string P, .string Q, .string Z], rfl, hB, heap_alloc_new w _, Nat.le_refl _, by decide, rfl, by simp⟩⟩
abbrev onesL (l : List Rl) : List (List Rl) := l.map fun x => [x]
theorem ones_all (l : List Rl) : allE (onesL l) = listE l := by
  unfold allE listE
  have h1 : (onesL l).any longG = false := by
    rw [List.any_eq_false]
    intro g hg
    obtain ⟨x, _, rfl⟩ := List.mem_map.1 hg
    simp [longG]
  have h2 : (onesL l).any badG = !l.all rightR := by
    rw [List.any_map, List.not_all_eq_any_not]
    congr 1
    funext x
    simp [badG]
  have h3 : textA (onesL l) = textQ l := by
    unfold textA textQ
    rw [List.map_map]
    congr 1
    apply List.map_congr_left
    intro x _
    exact Lib.join_one (textR x) sepG
  rw [h1, h2, h3, Bool.or_false, List.length_map]
  by_cases g : 64 < l.length
  · rw [if_pos (by simpa using g), if_pos g]
  · rw [if_neg (by simpa using g), if_neg g]
    cases l.all rightR <;> simp
set_option maxRecDepth 100000 in
set_option maxHeartbeats 8000000 in
theorem ones_ref (v : Value) (l : List Rl) (hl : l.length ≤ 90000) (w : World) (h : HoldQ w v l) : Calls Tryz.prog 51 #[v] w fun e w' => (∃ a c L, e = .returned (.slice a l.length c) ∧ fsts L = onesL l ∧ OwnGs w' w.heap.size (.slice a l.length c) L) ∧ Below w.heap.size w w' := by
  obtain ⟨i0, hi, hz0, hz1, hz2'⟩ := info_parts infoSl
  obtain ⟨a, c, b, o, rfl, hc, ha, hcell⟩ := h.parts
  have HC := Lib.hid hcell
  have HP : Hid (∀ v' L W, fsts L = onesL l → OwnGs W w.heap.size v' L → ∃ a c L, v' = .slice a l.length c ∧ fsts L = onesL l ∧ OwnGs W w.heap.size (.slice a l.length c) L) := Lib.hid (fun v' L W h1 h2 => by
    obtain ⟨a, c, e⟩ := OwnV.form h2.1
    have hlen : L.length = l.length := by have := congrArg List.length h1; simpa [fsts, onesL] using this
    rw [List.length_map, hlen] at e
    subst e
    exact ⟨a, c, L, rfl, h1, h2⟩)
  obtain ⟨n, hN⟩ : ∃ n, l.length = n := ⟨_, rfl⟩
  rw [hN] at hc ha hl HP ⊢
  have HN := Lib.hid hN
  clear hcell hN h
  go_enter Tryz.func51, Tryz.ntmps51
  go_wp2
  go_loopw [3, 4] (fun u i wr => ∃ (k : Nat) (L : List Gv), k ≤ n ∧ i = .int .i64 k ∧ L.length = k ∧ Hid (fsts L = onesL (l.take k)) ∧ Hid (OwnGs wr w.heap.size u L) ∧ Hid (Below w.heap.size w wr)) (fun _ i _ => n - (intOf i).toNat)
  case atStart => exact ⟨0, [], by omega, rfl, rfl, Lib.hid rfl, Lib.hid (OwnGs.nil _ _), Lib.hid (Below.refl _ _)⟩
  case round =>
    obtain ⟨k, L, hk, rfl, hLk, HF, HO, HB⟩ := hrel
    have hsz := HB.out.size
    by_cases hlt : k < n
    · obtain ⟨rfl, hbw⟩ := ha (by omega)
      obtain ⟨⟨p, q, z⟩, hx⟩ : ∃ x, l[k]? = some x := ⟨_, List.getElem?_eq_getElem (by rw [HN.out]; exact hlt)⟩
      obtain ⟨c0, c1, c2⟩ := HC.out k _ hx
      dsimp only at c0 c1 c2
      rw [← HB.out.cell (p := ⟨b, o + k * 3, none⟩) hbw] at c0
      rw [← HB.out.cell (p := ⟨b, o + k * 3 + 1, none⟩) hbw] at c1
      rw [← HB.out.cell (p := ⟨b, o + k * 3 + 2, none⟩) hbw] at c2
      have HF2 : Hid (∀ sv, fsts (L ++ [([(p, q, z)], sv)]) = onesL (l.take (k + 1))) := Lib.hid (fun sv => by
        rw [take_snocQ hx]; simp only [fsts, onesL, List.map_append, List.map_cons, List.map_nil] at *; rw [HF.out])
      have HLT := Lib.hid (OwnQ.lit wr w.heap.size (bsT p) (bsT q) (bsT z) hsz)
      rw [bytesOf, bytesOf, bytesOf] at HLT
      generalize bsT p = P at *
      generalize bsT q = Q at *
      generalize bsT z = Z at *
      have b1 := (Below.refl wr.heap.size wr).alloc (Nat.le_refl _) (.cells #[.string P, .string Q, .string Z] 23)
      have HO1 := Lib.hid (HO.out.on b1)
      have HB1 := Lib.hid (HB.out.trans (b1.mono hsz))
      clear hx b1 HF
      go_wp2_with (at_builtin; refine wpList_append_own _ rfl _ _ 26 rfl w.heap.size 25 i0 _ 1 24 Tryz.underlying26 hi hz0 hz1 hz2' rfl (by decide) _ _ _ rfl (World.ownsRow.alloc HO1.out.1.2 _) ⟨wr.heap.size + 1, 0, none⟩ 1 1 [.slice (some ⟨wr.heap.size, 0, none⟩) 1 1] rfl rfl ?c1 ?c2 ?c3 ?c4 ?c5 ?_)
      case c2 => rfl
      case c3 => unfold maxLen; omega
      case c4 => omega
      case c5 => omega
      intro v' w3 hown' hgrow _
      have HO3 : Hid (OwnGs w3 w.heap.size v' (L ++ [([(p, q, z)], .slice (some ⟨wr.heap.size, 0, none⟩) 1 1)])) := Lib.hid (OwnGs.app HO1.out HLT.out (by rw [hLk]; simpa using hown') hgrow)
      have HB3 : Hid (Below w.heap.size w w3) := Lib.hid (OwnV.below HB1.out HO1.out.1 hgrow (Nat.le_refl _) HB1.out.size)
      have HF3 := Lib.hid (HF2.out (.slice (some ⟨wr.heap.size, 0, none⟩) 1 1))
      have hl3 : (L ++ [([(p, q, z)], Value.slice (some ⟨wr.heap.size, 0, none⟩) 1 1)]).length = k + 1 := by rw [List.length_append, hLk]; rfl
      have HL3 := Lib.hid hl3
      clear hown' hgrow hl3
      go_wp2
      go_roundw
      case rel => exact ⟨k + 1, _, by omega, by go_num, HL3.out, HF3, HO3, HB3⟩
      case measure => simp [intOf]; omega
    · obtain rfl : k = n := by omega
      have hfe : fsts L = onesL l := by rw [HF.out, List.take_of_length_le (by rw [HN.out]; omega)]
      have G := Lib.hid (HP.out _ _ _ hfe HO.out)
      clear hlt hfe
      go_wp2
      obtain ⟨a', c', L', hv, h1, h2⟩ := G.out
      subst hv
      have H1 := Lib.hid h1
      have H2 := Lib.hid h2
      clear h1 h2 G
      go_ret
      exact ⟨⟨_, _, L', rfl, H1.out, H2.out⟩, HB.out⟩
theorem ones_small {l : List Rl} {L : List Gv} (h : fsts L = onesL l) (hs : SmallQ l) : SmallG L := fun x hx => by
  have : x.1 ∈ onesL l := by rw [← h]; exact List.mem_map_of_mem hx
  obtain ⟨y, hy, e⟩ := List.mem_map.1 this
  rw [← e]
  exact ⟨fun z hz => by rw [List.mem_singleton.1 hz]; exact hs y hy, by simp⟩
set_option maxHeartbeats 4000000 in
theorem listE_ref (v : Value) (l : List Rl) (hl : l.length ≤ 500) (hs : SmallQ l) (w : World) (h : HoldQ w v l) : Calls Tryz.prog 26 #[v] w (TwoP (listE l) w) := by
  have O := ones_ref v l (by omega) w h
  have AE : Hid (∀ v' L W, fsts L = onesL l → HoldGs W v' L → Calls Tryz.prog 18 #[v'] W (TwoP (listE l) W)) := Lib.hid (fun v' L W h1 h2 => by
    have hlen : L.length = l.length := by have := congrArg List.length h1; simpa [fsts, onesL] using this
    have := allE_ref v' L (by omega) (ones_small h1 hs) W h2
    rw [h1, ones_all] at this
    exact this)
  have HP : Hid (∀ w', Below w.heap.size w w' → TwoP (listE l) w (.returned (.tuple #[.string (bsT (listE l).1), .int .i64 (listE l).2])) w') := Lib.hid (fun w' hb => ⟨rfl, hb⟩)
  unfold TwoP at AE
  obtain ⟨a, c, b, o, rfl, -⟩ := h.parts
  generalize (listE l).2 = k2 at *
  generalize bsT (listE l).1 = S1 at *
  generalize l.length = n at *
  clear h hs hl
  go_enter Tryz.func26, Tryz.ntmps26
  go_wp2_with (first
    | (go_at_call 51; (with_reducible refine O.mono ?_); rintro e w1 ⟨⟨a1, c1, L, rfl, h1, h2⟩, hb⟩; have HB1 := Lib.hid hb; have A1 := AE.out _ L w1 h1 h2.holds; clear hb h1 h2 O)
    | (go_at_call 18; (with_reducible refine A1.mono ?_); rintro e w2 ⟨rfl, hb⟩; have HB2 := Lib.hid (HB1.out.trans (hb.mono HB1.out.size)); clear hb))
  go_ret2
  exact HP.out _ HB2.out
end Go.Proofs.YteoomeknlfcfaaaGreatDoor
