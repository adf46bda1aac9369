import Derived.Test.YtkbkaeefdhkgdaaGreatDoorPQRefAll2
set_option maxRecDepth 100000
set_option maxHeartbeats 32000000
namespace Go.Proofs.YtkbkaeefdhkgdaaGreatDoor
section
open Go.RowKit
theorem sameQ_ref (u v : Value) (l : List Rl) (hl : l.length ≤ 90000) (w : World) (h1 : HoldQ w u l) (h2 : HoldQ w v l) : Calls Tryz.prog 75 #[u, v] w fun e w' => e = .returned (.bool true) ∧ ∃ q, w' = w.drewN q := by
 obtain ⟨a1, c1, b1, o1, rfl, hc1, ha1, hl1⟩ := h1.parts
 obtain ⟨a2, c2, b2, o2, rfl, hc2, ha2, hl2⟩ := h2.parts
 have H1 := Lib.hid hl1
 have H2 := Lib.hid hl2
 obtain ⟨n, hN⟩ : ∃ n, l.length = n := ⟨_, rfl⟩
 rw [hN] at hc1 ha1 hc2 ha2 hl ⊢
 have HN := Lib.hid hN
 clear hl1 hl2 hN h1 h2
 go_enter Tryz.func75, Tryz.ntmps75
 go_wp2
 go_loopw [5] (fun i wr => ∃ k : Nat, k ≤ n ∧ i = .int .i64 k ∧ Hid (∃ q, wr = w.drewN q)) (fun i _ => n - (intOf i).toNat)
 case atStart => exact ⟨0, by omega, rfl, Lib.hid ⟨0, rfl⟩⟩
 case round =>
  obtain ⟨k, hk, rfl, HQ⟩ := hrel
  by_cases hlt : k < n
  ·
   obtain ⟨rfl, hbw1⟩ := ha1 (by omega)
   obtain ⟨rfl, hbw2⟩ := ha2 (by omega)
   obtain ⟨⟨t, m, u⟩, hx⟩ : ∃ x, l[k]? = some x := ⟨_, List.getElem?_eq_getElem (by rw [HN.out]; exact hlt)⟩
   obtain ⟨q, hw⟩ := HQ.out
   obtain ⟨d0, d1, d2⟩ := H1.out k _ hx
   obtain ⟨f0, f1, f2⟩ := H2.out k _ hx
   dsimp only at d0 d1 d2 f0 f1 f2
   rw [← World.cell?_drewN w q] at d0 d1 d2 f0 f1 f2
   rw [← hw] at d0 d1 d2 f0 f1 f2
   have HMM : Hid (∀ m', ∃ q, wr.drewN m' = w.drewN q) := Lib.hid (fun m' => ⟨q + m', by rw [hw, World.drewN_drewN]⟩)
   generalize bsT t = X at *
   generalize bsT m = Y at *
   generalize bsT u = Z at *
   have q0 := eqT X X
   rw [decide_eq_true rfl] at q0
   have q1 := eqT Y Y
   rw [decide_eq_true rfl] at q1
   have q2 := eqT Z Z
   rw [decide_eq_true rfl] at q2
   have j0 : (0 : Int) ≤ (k : Int) := by omega
   have j1 : (k : Int) < (n : Int) := by omega
   clear hx hw HQ
   go_wp2
   go_quiet (fail)
   go_wp2
   go_roundw
   case rel => exact ⟨k + 1, by omega, by go_num, Lib.hid (HMM.out _)⟩
   case measure => simp [intOf]; omega
  ·
   obtain rfl : k = n := by omega
   clear hlt
   go_wp2
   go_ret
   exact ⟨rfl, HQ.out⟩
theorem sameG_ref (u v : Value) (L M : List Gv) (hLM : fsts L = fsts M) (hl : L.length ≤ 90000) (hp : ∀ p ∈ L, p.1.length ≤ 90000) (w : World) (h1 : HoldGs w u L) (h2 : HoldGs w v M) : Calls Tryz.prog 74 #[u, v] w fun e w' => e = .returned (.bool true) ∧ Below w.heap.size w w' := by
 have hlm : M.length = L.length := by have := congrArg List.length hLM; simpa [fsts] using this.symm
 obtain ⟨a1, c1, b1, o1, rfl, hc1, ha1, hl1⟩ := h1.parts
 obtain ⟨a2, c2, b2, o2, rfl, hc2, ha2, hl2⟩ := h2.parts
 have H1 := Lib.hid hl1
 have H2 := Lib.hid hl2
 have HI1 := Lib.hid h1.2
 have HI2 := Lib.hid h2.2
 have HPL := Lib.hid hp
 have HLM : Hid (∀ (k : Nat) p r, L[k]? = some p → M[k]? = some r → r.1 = p.1) := Lib.hid (fun k p r hp hr => by
  have := congrArg (fun l => l[k]?) hLM
  simp only [fsts, List.getElem?_map, hp, hr, Option.map_some, Option.some.injEq] at this
  exact this.symm)
 obtain ⟨n, hN⟩ : ∃ n, L.length = n := ⟨_, rfl⟩
 rw [hlm] at hc2 ha2 ⊢
 rw [hN] at hc1 ha1 hc2 ha2 hl hlm ⊢
 have HN := Lib.hid hN
 have HM := Lib.hid hlm
 clear hl1 hl2 hN hlm hLM hp h1 h2
 go_enter Tryz.func74, Tryz.ntmps74
 go_wp2
 go_loopw [5] (fun i wr => ∃ k : Nat, k ≤ n ∧ i = .int .i64 k ∧ Hid (Below w.heap.size w wr)) (fun i _ => n - (intOf i).toNat)
 case atStart => exact ⟨0, by omega, rfl, Lib.hid (Below.refl _ _)⟩
 case round =>
  obtain ⟨k, hk, rfl, HB⟩ := hrel
  have hsz := HB.out.size
  by_cases hlt : k < n
  ·
   obtain ⟨rfl, hbw1⟩ := ha1 (by omega)
   obtain ⟨rfl, hbw2⟩ := ha2 (by omega)
   obtain ⟨⟨g0, sv⟩, hp⟩ : ∃ x, L[k]? = some x := ⟨_, List.getElem?_eq_getElem (by rw [HN.out]; exact hlt)⟩
   obtain ⟨⟨g1, tv⟩, hr⟩ : ∃ x, M[k]? = some x := ⟨_, List.getElem?_eq_getElem (by rw [HM.out]; exact hlt)⟩
   have he := HLM.out k _ _ hp hr
   have d0 := H1.out k _ hp
   have f0 := H2.out k _ hr
   have k1 := HI1.out _ (List.mem_of_getElem? hp)
   have k2 := HI2.out _ (List.mem_of_getElem? hr)
   have k3 := HPL.out _ (List.mem_of_getElem? hp)
   dsimp only at he d0 f0 k1 k2 k3
   subst he
   rw [← HB.out.cell (p := ⟨b1, o1 + k, none⟩) hbw1] at d0
   rw [← HB.out.cell (p := ⟨b2, o2 + k, none⟩) hbw2] at f0
   have SA := fun V (hb : Below w.heap.size w V) => (sameQ_ref sv tv g1 k3 V (HoldV.on k1 hb) (HoldV.on k2 hb)).mono (fun _ w' hp => (⟨hp.1, by obtain ⟨q, hq⟩ := hp.2; rw [hq]; exact belowQ (Below.refl _ _) q⟩ : _ ∧ Below V.heap.size V w'))
   obtain ⟨sa, sc, -, -, rfl, -⟩ := k1.parts
   obtain ⟨ta, tc, -, -, rfl, -⟩ := k2.parts
   generalize g1.length = gn at *
   have j0 : (0 : Int) ≤ (k : Int) := by omega
   have j1 : (k : Int) < (n : Int) := by omega
   clear hp hr k1 k2 k3 HLM HPL H1 H2 HI1 HI2 hbw1 hbw2
   have hs := And.intro d0 (And.intro f0 HB.out)
   go_wp2
   have KQ := Lib.hid (atK w [(⟨b1, o1 + k, none⟩, .slice sa gn sc), (⟨b2, o2 + k, none⟩, .slice ta gn tc)])
   have BE := fun (V : World) (h : V.cell? ⟨b1, o1 + k, none⟩ = some (.slice sa gn sc) ∧ V.cell? ⟨b2, o2 + k, none⟩ = some (.slice ta gn tc) ∧ Below w.heap.size w V) => AtF.be (w := w) (l := [(⟨b1, o1 + k, none⟩, .slice sa gn sc), (⟨b2, o2 + k, none⟩, .slice ta gn tc)]) h
   go_region_held3 (fun V => V.cell? ⟨b1, o1 + k, none⟩ = some (.slice sa gn sc) ∧ V.cell? ⟨b2, o2 + k, none⟩ = some (.slice ta gn tc) ∧ Below w.heap.size w V)
    (first | assumption | exact hs | exact KQ.out.dr _ hs | exact KQ.out.dr _ (by assumption) | exact KQ.out.on _ _ (by assumption) (by assumption) | exact KQ.out.al _ _ (by assumption) | exact KQ.out.ald _ _ (by assumption) | exact KQ.out.al _ _ hs | exact KQ.out.ald _ _ hs)
    (((go_at_call 75; (with_reducible refine (SA _ (BE _ (by assumption))).mono ?_); rintro e w3 ⟨rfl, hb⟩)))
   all_goals
    rename_i hHeld
    have HB3 := Lib.hid (BE _ hHeld)
    clear hHeld
    go_wp2
    go_roundw
    case rel => exact ⟨k + 1, by omega, by go_num, HB3⟩
    case measure => simp [intOf]; omega
  ·
   obtain rfl : k = n := by omega
   clear hlt
   go_wp2
   go_ret
   exact ⟨rfl, HB.out⟩
end
section
open Go.RowKit
theorem OwnQ.lit (w : World) (B : Nat) (P Q Z : ByteArray) (hB : B ≤ w.heap.size) : OwnQ (w.alloc (.cells #[.string P, .string Q, .string Z] 46)) B (.slice (some ⟨w.heap.size, 0, none⟩) 1 1) [(P.data.toList, Q.data.toList, Z.data.toList)] :=
 ⟨cellsQ_len _, rfl, .inr ⟨w.heap.size, 1, #[.string P, .string Q, .string Z], rfl, hB, heap_alloc_new w _, Nat.le_refl _, by decide, rfl, by simp⟩⟩
abbrev onesL (l : List Rl) : List (List Rl) := l.map fun x => [x]
theorem ones_all (l : List Rl) : allE (onesL l) = listE l := by
 unfold allE listE
 have h1 : (onesL l).any longG = false := by
  rw [List.any_eq_false]
  intro g hg
  obtain ⟨x, _, rfl⟩ := List.mem_map.1 hg
  simp [longG]
 have h2 : (onesL l).any badG = !l.all rightR := by
  rw [List.any_map, List.not_all_eq_any_not]
  congr 1
  funext x
  simp [badG]
 have h3 : textA (onesL l) = textQ l := by
  unfold textA textQ
  rw [List.map_map]
  congr 1
  apply List.map_congr_left
  intro x _
  exact Lib.join_one (textR x) sepG
 rw [h1, h2, h3, Bool.or_false, List.length_map]
 by_cases g : 64 < l.length
 ·
  rw [if_pos (by simpa using g), if_pos g]
 ·
  rw [if_neg (by simpa using g), if_neg g]
  cases l.all rightR <;> simp
theorem ones_ref (v : Value) (l : List Rl) (hl : l.length ≤ 90000) (w : World) (h : HoldQ w v l) : Calls Tryz.prog 49 #[v] w fun e w' => (∃ a c L, e = .returned (.slice a l.length c) ∧ fsts L = onesL l ∧ OwnGs w' w.heap.size (.slice a l.length c) L) ∧ Below w.heap.size w w' := by
 obtain ⟨i0, hi, hz0, hz1, hz2'⟩ := info_parts infoSl
 obtain ⟨a, c, b, o, rfl, hc, ha, hcell⟩ := h.parts
 have HC := Lib.hid hcell
 have HP : Hid (∀ v' L W, fsts L = onesL l → OwnGs W w.heap.size v' L → ∃ a c L, v' = .slice a l.length c ∧ fsts L = onesL l ∧ OwnGs W w.heap.size (.slice a l.length c) L) := Lib.hid (fun v' L W h1 h2 => by
  obtain ⟨a, c, e⟩ := OwnV.form h2.1
  have hlen : L.length = l.length := by have := congrArg List.length h1; simpa [fsts, onesL] using this
  rw [List.length_map, hlen] at e
  subst e
  exact ⟨a, c, L, rfl, h1, h2⟩)
 obtain ⟨n, hN⟩ : ∃ n, l.length = n := ⟨_, rfl⟩
 rw [hN] at hc ha hl HP ⊢
 have HN := Lib.hid hN
 clear hcell hN h
 go_enter Tryz.func49, Tryz.ntmps49
 go_wp2
 go_loopw [3, 4] (fun u i wr => ∃ (k : Nat) (L : List Gv), k ≤ n ∧ i = .int .i64 k ∧ L.length = k ∧ Hid (fsts L = onesL (l.take k)) ∧ Hid (OwnGs wr w.heap.size u L) ∧ Hid (Below w.heap.size w wr)) (fun _ i _ => n - (intOf i).toNat)
 case atStart => exact ⟨0, [], by omega, rfl, rfl, Lib.hid rfl, Lib.hid (OwnGs.nil _ _), Lib.hid (Below.refl _ _)⟩
 case round =>
  obtain ⟨k, L, hk, rfl, hLk, HF, HO, HB⟩ := hrel
  have hsz := HB.out.size
  by_cases hlt : k < n
  ·
   obtain ⟨rfl, hbw⟩ := ha (by omega)
   obtain ⟨⟨p, q, z⟩, hx⟩ : ∃ x, l[k]? = some x := ⟨_, List.getElem?_eq_getElem (by rw [HN.out]; exact hlt)⟩
   obtain ⟨c0, c1, c2⟩ := HC.out k _ hx
   dsimp only at c0 c1 c2
   rw [← HB.out.cell (p := ⟨b, o + k * 3, none⟩) hbw] at c0
   rw [← HB.out.cell (p := ⟨b, o + k * 3 + 1, none⟩) hbw] at c1
   rw [← HB.out.cell (p := ⟨b, o + k * 3 + 2, none⟩) hbw] at c2
   have HF2 : Hid (∀ sv, fsts (L ++ [([(p, q, z)], sv)]) = onesL (l.take (k + 1))) := Lib.hid (fun sv => by
    rw [take_snocQ hx]; simp only [fsts, onesL, List.map_append, List.map_cons, List.map_nil] at *; rw [HF.out])
   have HLT := Lib.hid (OwnQ.lit wr w.heap.size (bsT p) (bsT q) (bsT z) hsz)
   rw [bytesOf, bytesOf, bytesOf] at HLT
   generalize bsT p = P at *
   generalize bsT q = Q at *
   generalize bsT z = Z at *
   have b1 := (Below.refl wr.heap.size wr).alloc (Nat.le_refl _) (.cells #[.string P, .string Q, .string Z] 46)
   have HO1 := Lib.hid (HO.out.on b1)
   have HB1 := Lib.hid (HB.out.trans (b1.mono hsz))
   clear hx b1 HF
   go_wp2_with (at_builtin; refine wpList_append_own _ rfl _ _ 38 rfl w.heap.size 39 i0 _ 1 24 Tryz.underlying38 hi hz0 hz1 hz2' rfl (by decide) _ _ _ rfl (World.ownsRow.alloc HO1.out.1.2 _) ⟨wr.heap.size + 1, 0, none⟩ 1 1 [.slice (some ⟨wr.heap.size, 0, none⟩) 1 1] rfl rfl ?c1 ?c2 ?c3 ?c4 ?c5 ?_)
   case c2 => rfl
   case c3 => unfold maxLen; omega
   case c4 => omega
   case c5 => omega
   intro v' w3 hown' hgrow _
   have HO3 : Hid (OwnGs w3 w.heap.size v' (L ++ [([(p, q, z)], .slice (some ⟨wr.heap.size, 0, none⟩) 1 1)])) := Lib.hid (OwnGs.app HO1.out HLT.out (by rw [hLk]; simpa using hown') hgrow)
   have HB3 : Hid (Below w.heap.size w w3) := Lib.hid (OwnV.below HB1.out HO1.out.1 hgrow (Nat.le_refl _) HB1.out.size)
   have HF3 := Lib.hid (HF2.out (.slice (some ⟨wr.heap.size, 0, none⟩) 1 1))
   have hl3 : (L ++ [([(p, q, z)], Value.slice (some ⟨wr.heap.size, 0, none⟩) 1 1)]).length = k + 1 := by rw [List.length_append, hLk]; rfl
   have HL3 := Lib.hid hl3
   clear hown' hgrow hl3
   go_wp2
   go_roundw
   case rel => exact ⟨k + 1, _, by omega, by go_num, HL3.out, HF3, HO3, HB3⟩
   case measure => simp [intOf]; omega
  ·
   obtain rfl : k = n := by omega
   have hfe : fsts L = onesL l := by rw [HF.out, List.take_of_length_le (by rw [HN.out]; omega)]
   have G := Lib.hid (HP.out _ _ _ hfe HO.out)
   clear hlt hfe
   go_wp2
   obtain ⟨a', c', L', hv, h1, h2⟩ := G.out
   subst hv
   have H1 := Lib.hid h1
   have H2 := Lib.hid h2
   clear h1 h2 G
   go_ret
   exact ⟨⟨_, _, L', rfl, H1.out, H2.out⟩, HB.out⟩
end
section
open Go.RowKit
theorem head32 {s : ByteArray} (h : 0 < s.size) : s.data.toList.head? = some s[0] := by
 have hl := Lib.size_eq s
 have := List.drop_eq_getElem_cons (l := s.data.toList) (i := 0) (by omega)
 rw [List.drop_zero] at this
 rw [this]; rfl
theorem last32 {s : ByteArray} (h : 0 < s.size) : s.data.toList.getLast? = some (s[s.size - 1]'(by omega)) := by
 have hl := Lib.size_eq s
 rw [List.getLast?_eq_getElem?, List.getElem?_eq_getElem (by omega)]
 simp only [← hl]; rfl
theorem ext_tail (s : ByteArray) : (s.extract 1 s.size).data.toList = s.data.toList.tail := by rw [ext_end, List.drop_one]
theorem ext_last (s : ByteArray) : (s.extract 0 (s.size - 1)).data.toList = s.data.toList.dropLast := by
 have hl := Lib.size_eq s
 rw [List.dropLast_eq_take, ← hl]
 simp [ByteArray.data_extract]
 rw [List.dropLast_eq_take, ← hl]
def TrimP (t : Bs) (w : World) (e : Ending) (w' : World) : Prop := ∃ T : ByteArray, e = .returned (.string T) ∧ T.data.toList = t ∧ w = w'
theorem eq32 (c : UInt8) : ((c.toNat : Int) == 32) = decide (c = 32) := by
 by_cases h : c = 32
 ·
  subst h; rfl
 ·
  rw [decide_eq_false h, beq_eq_false_iff_ne]; intro g; exact h (UInt8.toNat_inj.1 (by have : (32 : UInt8).toNat = 32 := rfl; omega))
theorem some32 (c : UInt8) : (some c = some (32 : UInt8)) ↔ c = 32 := by simp
theorem trimL_ref (s : ByteArray) (hs : s.size ≤ 100000) (w : World) : Calls Tryz.prog 79 #[.string s, .bool true] w (TrimP (trimL s.data.toList) w) := by
 by_cases h0 : 0 < s.size
 ·
  have hx := s[0].toNat_lt
  have e0 := eq32 s[0]
  by_cases h : s[0] = 32
  ·
   have G := Lib.hid (show (s.extract 1 s.size).data.toList = trimL s.data.toList by unfold trimL; rw [head32 h0, if_pos (by rw [h]), ext_tail])
   rw [decide_eq_true h] at e0
   clear h
   go_enter Tryz.func79, Tryz.ntmps79
   go_wp2
   go_ret
   exact ⟨_, rfl, G.out, rfl⟩
  ·
   have G := Lib.hid (show s.data.toList = trimL s.data.toList by unfold trimL; rw [head32 h0, if_neg (by rw [some32]; exact h)])
   rw [decide_eq_false h] at e0
   clear h
   go_enter Tryz.func79, Tryz.ntmps79
   go_wp2
   go_ret
   exact ⟨_, rfl, G.out, rfl⟩
 ·
  have hn : s.data.toList = [] := List.eq_nil_of_length_eq_zero (by rw [← sizeOf]; omega)
  have G := Lib.hid (show s.data.toList = trimL s.data.toList by rw [hn]; rfl)
  clear hn
  go_enter Tryz.func79, Tryz.ntmps79
  go_wp2
  go_ret
  exact ⟨_, rfl, G.out, rfl⟩
theorem trimR_ref (s : ByteArray) (hs : s.size ≤ 100000) (w : World) : Calls Tryz.prog 79 #[.string s, .bool false] w (TrimP (trimR s.data.toList) w) := by
 by_cases h0 : 0 < s.size
 ·
  obtain ⟨q, hq⟩ : ∃ q, s.size = q + 1 := ⟨s.size - 1, by omega⟩
  have hqs : q < s.size := by omega
  have hx := s[q].toNat_lt
  have e0 := eq32 s[q]
  have hL : s.data.toList.getLast? = some s[q] := by rw [last32 h0]; congr 1; simp only [hq, Nat.add_sub_cancel]
  have hE : (s.extract 0 q).data.toList = s.data.toList.dropLast := by rw [← ext_last, hq, Nat.add_sub_cancel]
  by_cases h : s[q] = 32
  ·
   have G := Lib.hid (show (s.extract 0 q).data.toList = trimR s.data.toList by unfold trimR; rw [hL, if_pos (by rw [h]), hE])
   rw [decide_eq_true h] at e0
   clear h hL hE h0
   go_enter Tryz.func79, Tryz.ntmps79
   go_wp2
   go_ret
   exact ⟨_, rfl, G.out, rfl⟩
  ·
   have G := Lib.hid (show s.data.toList = trimR s.data.toList by unfold trimR; rw [hL, if_neg (by rw [some32]; exact h)])
   rw [decide_eq_false h] at e0
   clear h hL hE h0
   go_enter Tryz.func79, Tryz.ntmps79
   go_wp2
   go_ret
   exact ⟨_, rfl, G.out, rfl⟩
 ·
  have hn : s.data.toList = [] := List.eq_nil_of_length_eq_zero (by rw [← sizeOf]; omega)
  have G := Lib.hid (show s.data.toList = trimR s.data.toList by rw [hn]; rfl)
  clear hn
  go_enter Tryz.func79, Tryz.ntmps79
  go_wp2
  go_ret
  exact ⟨_, rfl, G.out, rfl⟩
end
section
open Go.RowKit Go.Lib
theorem allE_zero7 {l : List (List Rl)} (h : (allE l).2 = 0) : RightA l ∧ (allE l).1 = textA l := by
 unfold allE at *
 by_cases g : (decide (64 < l.length) || l.any longG) = true
 ·
  rw [if_pos g] at h; exact absurd h (by decide)
 ·
  rw [if_neg g] at h ⊢
  simp only [Bool.or_eq_true, decide_eq_true_eq, not_or, Bool.not_eq_true] at g
  by_cases r : l.any badG = true
  ·
   rw [if_pos r] at h; exact absurd h (by decide)
  ·
   rw [if_neg r]
   refine ⟨⟨by omega, fun x hx => ?_⟩, rfl⟩
   have h1 := List.any_eq_false.1 g.2 x hx
   have h2 := List.any_eq_false.1 (by simpa using r : l.any badG = false) x hx
   simp only [longG, badG, decide_eq_true_eq] at h1 h2
   simp only [Bool.or_eq_true, not_or, Bool.not_eq_true, Bool.not_eq_eq_eq_not, Bool.not_true] at h2
   refine ⟨fun e => ?_, by omega, fun y hy => ?_⟩
   ·
    have := h2.1; subst e; simp at this
   ·
    exact List.all_eq_true.1 (by simpa using h2.2) y hy
theorem allE_right {l : List (List Rl)} (h : RightA l) : allE l = (textA l, 0) := by
 unfold allE
 have h1 : l.any longG = false := List.any_eq_false.2 fun g hg => by simp only [longG, decide_eq_true_eq]; have := (h.2 g hg).2.1; omega
 have h2 : l.any badG = false := List.any_eq_false.2 fun g hg => by
  have h3 := (h.2 g hg).1
  have h4 : g.all rightR = true := List.all_eq_true.2 (h.2 g hg).2.2
  simp only [badG]
  rw [h4]
  cases g with
  | nil => exact absurd rfl h3
  | cons a t => simp
 rw [h1, h2, decide_eq_false (by have := h.1; omega)]; rfl
def refP (s : Bs) : Option (List (List Rl)) := if s = [] then some [] else match refRead s with
 | none => none
 | some l => if allE l = (s, 0) then some l else none
theorem refP_eq (s : Bs) : refP s = parseA s := by
 unfold refP
 by_cases h0 : s = []
 ·
  subst h0; rfl
 rw [if_neg h0]
 cases hp : parseA s with
 | some l =>
  obtain ⟨ht, hr⟩ := textA_inv hp
  have hne : l ≠ [] := fun e => h0 (by rw [← ht, e]; rfl)
  have e := refRead_text hne hr
  rw [ht] at e
  rw [e]
  dsimp only
  rw [if_pos (by rw [allE_right hr, ht])]
 | none =>
  cases hq : refRead s with
  | none => rfl
  | some l =>
   dsimp only
   rw [if_neg]
   intro e
   have hz : (allE l).2 = 0 := by rw [e]
   obtain ⟨hr, ht⟩ := allE_zero7 hz
   have : textA l = s := by rw [← ht, e]
   rw [← this, parseA_text hr] at hp
   cases hp
def oneG (l : List (List Rl)) : Option (List Rl) := if l.all (fun g => g.length == 1) then some l.flatten else none
theorem onesL_flat : ∀ (l : List (List Rl)), (l.all (fun g => g.length == 1)) = true → onesL l.flatten = l
 | [], _ => rfl
 | g :: l, h => by
  rw [List.all_cons, Bool.and_eq_true] at h
  have ih := onesL_flat l h.2
  match g, h.1 with
  | [x], _ => simp only [List.flatten_cons, onesL, List.singleton_append, List.map_cons]; rw [show List.map (fun x => [x]) l.flatten = l from ih]
theorem flat_ones (l : List Rl) : (onesL l).flatten = l := by
 induction l with
 | nil => rfl
 | cons a t ih => simp only [onesL, List.map_cons, List.flatten_cons, List.singleton_append]; rw [show (List.map (fun x => [x]) t).flatten = t from ih]
theorem right_ones {l : List Rl} : RightA (onesL l) ↔ RightL l := by
 unfold RightA RightL RightG
 rw [List.length_map]
 constructor
 ·
  rintro ⟨h1, h2⟩
  exact ⟨h1, fun x hx => (h2 [x] (List.mem_map.2 ⟨x, hx, rfl⟩)).2.2 x (by simp)⟩
 ·
  rintro ⟨h1, h2⟩
  refine ⟨h1, fun g hg => ?_⟩
  obtain ⟨x, hx, rfl⟩ := List.mem_map.1 hg
  exact ⟨by simp, by simp, fun y hy => by rw [List.mem_singleton.1 hy]; exact h2 x hx⟩
theorem text_ones (l : List Rl) : textA (onesL l) = textQ l := by
 unfold textA textQ
 rw [List.map_map]
 congr 1
 apply List.map_congr_left
 intro x _
 exact Lib.join_one (textR x) sepG
theorem parseQ_eq (s : Bs) : parseQ s = (parseA s).bind oneG := by
 cases hq : parseQ s with
 | some l =>
  obtain ⟨ht, hr⟩ := textQ_inv hq
  have : parseA s = some (onesL l) := by rw [← ht, ← text_ones]; exact parseA_text (right_ones.2 hr)
  rw [this]
  show some l = oneG (onesL l)
  unfold oneG
  rw [if_pos (by simp [onesL]), flat_ones]
 | none =>
  cases hp : parseA s with
  | none => rfl
  | some l =>
   show none = oneG l
   unfold oneG
   by_cases h : (l.all (fun g => g.length == 1)) = true
   ·
    exfalso
    obtain ⟨ht, hr⟩ := textA_inv hp
    have e := onesL_flat l h
    rw [← e] at hr ht
    rw [← ht, text_ones, parseQ_text (right_ones.1 hr)] at hq
    cases hq
   ·
    rw [if_neg h]
theorem mapM_lenQ {α β : Type} {f : α → Option β} : ∀ {l : List α} {r : List β}, l.mapM f = some r → r.length = l.length
 | [], r, h => by simp at h; subst h; rfl
 | a :: l, r, h => by
  rw [List.mapM_cons] at h
  cases ha : f a with
  | none => rw [ha] at h; cases h
  | some b =>
   rw [ha] at h
   cases hl : l.mapM f with
   | none => rw [hl] at h; cases h
   | some t =>
    rw [hl] at h
    cases h
    rw [List.length_cons, List.length_cons, mapM_lenQ hl]
theorem mapM_memQ {α β : Type} {f : α → Option β} : ∀ {l : List α} {r : List β}, l.mapM f = some r → ∀ y ∈ r, ∃ x ∈ l, f x = some y
 | [], r, h => by simp at h; subst h; intro y hy; simp at hy
 | a :: l, r, h => by
  rw [List.mapM_cons] at h
  cases ha : f a with
  | none => rw [ha] at h; cases h
  | some b =>
   rw [ha] at h
   cases hl : l.mapM f with
   | none => rw [hl] at h; cases h
   | some t =>
    rw [hl] at h
    cases h
    intro y hy
    rcases List.mem_cons.1 hy with rfl | hy
    ·
     exact ⟨a, by simp, ha⟩
    ·
     obtain ⟨x, hx, e⟩ := mapM_memQ hl y hy
     exact ⟨x, List.mem_cons_of_mem _ hx, e⟩
theorem trimL_len (s : Bs) : (trimL s).length ≤ s.length := by
 unfold trimL; split
 ·
  rw [List.length_tail]; omega
 ·
  omega
theorem trimR_len (s : Bs) : (trimR s).length ≤ s.length := by
 unfold trimR; split
 ·
  rw [List.length_dropLast]; omega
 ·
  omega
theorem textR_big (x : Rl) (h : rightR x = true) : x.1.length ≤ (textR x).length ∧ x.2.1.length ≤ (textR x).length ∧ x.2.2.length ≤ (textR x).length := by
 obtain ⟨n, o, v⟩ := x
 unfold rightR at h
 unfold textR
 by_cases e : o = []
 ·
  simp [e] at h ⊢; simp [h.2]
 ·
  rw [if_neg e]; simp; omega
theorem read_small {s : Bs} {l : List (List Rl)} (h : refRead s = some l) : l.length ≤ s.length + 1 ∧ ∀ g ∈ l, g.length ≤ s.length + 1 ∧ ∀ x ∈ g, x.1.length ≤ s.length ∧ x.2.1.length ≤ s.length ∧ x.2.2.length ≤ s.length := by
 unfold refRead at h
 have hl := mapM_lenQ h
 refine ⟨by rw [hl]; exact spl_len 44 s, fun g hg => ?_⟩
 obtain ⟨p, hp, hpg⟩ := mapM_memQ h g hg
 have h1 := spl_piece 44 s p hp
 have h2 := trimL_len p
 unfold refG at hpg
 have h3 := spl_len 124 (trimL p)
 refine ⟨by rw [mapM_lenQ hpg]; omega, fun x hx => ?_⟩
 obtain ⟨q, hq, hqx⟩ := mapM_memQ hpg x hx
 have h4 := spl_piece 124 (trimL p) q hq
 have h5 := trimL_len q
 have h6 := trimR_len (trimL q)
 have h7 := (text_parseR hqx).1
 have h8 := textR_big x (text_parseR hqx).2
 rw [h7] at h8
 omega
end
section
open Go.RowKit
theorem allLong_ref (v : Value) (l : List Gv) (hl : l.length ≤ 90000) (hp : ∀ p ∈ l, p.1.length ≤ 90000) (hlong : 64 < l.length ∨ (fsts l).any longG = true) (w : World) (h : HoldGs w v l) : Calls Tryz.prog 14 #[v] w fun e w' => e = .returned (.tuple #[.string ⟨#[]⟩, .int .i64 22]) ∧ Below w.heap.size w w' := by
 obtain ⟨a, c, b, o, rfl, hc, ha, hcell⟩ := h.parts
 have HC := Lib.hid hcell
 have HG := Lib.hid h
 have HS := Lib.hid hp
 have HLO := Lib.hid hlong
 obtain ⟨n, hN⟩ : ∃ n, l.length = n := ⟨_, rfl⟩
 rw [hN] at hc ha hl HLO ⊢
 have HN := Lib.hid hN
 clear hcell hN h hp hlong
 go_enter Tryz.func14, Tryz.ntmps14
 go_wp2
 go_loop [4] (fun i => ∃ k : Nat, k ≤ n ∧ i = .int .i64 k ∧ Hid (∀ (j : Nat) y, j < k → l[j]? = some y → longG y.1 = false)) (fun i => n - (intOf i).toNat)
 case atStart => exact ⟨0, by omega, rfl, Lib.hid (fun j y hj => by omega)⟩
 case round =>
  obtain ⟨k, hk, rfl, H⟩ := hrel
  by_cases hlt : k < n
  ·
   obtain ⟨rfl, hbw⟩ := ha (by omega)
   obtain ⟨⟨g0, sv⟩, hx⟩ : ∃ x, l[k]? = some x := ⟨_, List.getElem?_eq_getElem (by rw [HN.out]; exact hlt)⟩
   have hgx := HG.out.2 _ (List.mem_of_getElem? hx)
   have hsm := HS.out _ (List.mem_of_getElem? hx)
   have c0 := HC.out k _ hx
   dsimp only at c0 hgx hsm
   obtain ⟨sa, sc, -, -, hsv, -⟩ := hgx.parts
   subst hsv
   by_cases h64 : 64 < g0.length
   ·
    generalize g0.length = gn at *
    clear hx hgx H HLO
    go_wp2
    go_ret2
    exact ⟨rfl, Below.refl _ _⟩
   ·
    have HX : Hid (∀ (j : Nat) y, j < k + 1 → l[j]? = some y → longG y.1 = false) := Lib.hid (fun j y hj hy => by
     by_cases e : j = k
     ·
      subst e
      rw [hx] at hy; cases hy
      unfold longG; exact decide_eq_false h64
     ·
      exact H.out j y (by omega) hy)
    generalize g0.length = gn at *
    clear hx hgx H
    go_wp2
    go_round
    case rel => exact ⟨k + 1, by omega, by go_num, HX⟩
    case measure => simp [intOf]; omega
  ·
   obtain rfl : k = n := by omega
   have h64 : 64 < k := by
    rcases HLO.out with g | g
    ·
     exact g
    ·
     rw [long_miss (fun j y hy => H.out j y (by have := (List.getElem?_eq_some_iff.1 hy).1; rw [HN.out] at this; exact this) hy)] at g; cases g
   clear hlt H HLO
   go_wp2
   go_ret2
   exact ⟨rfl, Below.refl _ _⟩
theorem allW_ref (v : Value) (l : List Gv) (hl : l.length ≤ 90000) (hs : ∀ x ∈ l, SmallQ x.1 ∧ x.1.length ≤ 90000) (w : World) (h : HoldGs w v l) : Calls Tryz.prog 14 #[v] w (TwoP (allE (fsts l)) w) := by
 have hfl : (fsts l).length = l.length := List.length_map ..
 by_cases g : 64 < l.length ∨ (fsts l).any longG = true
 ·
  have e : allE (fsts l) = ([], 22) := by
   unfold allE
   rw [if_pos (by rw [hfl]; simpa using g)]
  rw [e]
  exact allLong_ref v l hl (fun p hp => (hs p hp).2) g w h
 ·
  have g1 : ¬ 64 < l.length := fun e => g (.inl e)
  have g2 : (fsts l).any longG = false := by cases e : (fsts l).any longG with | false => rfl | true => exact absurd (.inr e) g
  exact allE_ref v l (by omega) (fun x hx => ⟨(hs x hx).1, by
   have := List.any_eq_false.1 g2 x.1 (List.mem_map_of_mem hx)
   simp only [longG, decide_eq_true_eq] at this; omega⟩) w h
end
end Go.Proofs.YtkbkaeefdhkgdaaGreatDoor
