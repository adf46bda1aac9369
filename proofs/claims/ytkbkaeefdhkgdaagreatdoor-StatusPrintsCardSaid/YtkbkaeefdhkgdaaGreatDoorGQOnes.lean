import Derived.Test.YtkbkaeefdhkgdaaGreatDoorGQCutG
set_option maxRecDepth 100000
set_option maxHeartbeats 32000000
namespace Go.Proofs.YtkbkaeefdhkgdaaGreatDoor
section
open Go.RowKit
theorem cutPostG_some {l : List (List Rl)} {w w' : World} {e : Ending} (h : CutPostG (some l) w e w') : ∃ a n c L, e = .returned (.tuple #[.slice a n c, .int .i64 0]) ∧ fsts L = l ∧ OwnGs w' w.heap.size (.slice a n c) L ∧ Below w.heap.size w w' := by
 obtain ⟨⟨v, L, he, hf, ho⟩, hb⟩ := h
 obtain ⟨a, c, hv⟩ := OwnV.form ho.1
 subst hv
 exact ⟨a, _, c, L, he, hf, ho, hb⟩
theorem cutPostG_none {w w' : World} {e : Ending} (h : CutPostG none w e w') : e = .returned (.tuple #[.slice none 0 0, .int .i64 2]) ∧ Below w.heap.size w w' := h
theorem parseGroupsG_any (s : ByteArray) (hs : s.size ≤ 100000) (hp : ∀ p ∈ Lib.splitN s.data.toList sepA 65, p.length ≤ 100000 ∧ ∀ q ∈ Lib.splitN p sepG 65, q.length ≤ 4000) (w : World) (hL : LaidQ w) : Calls Tryz.prog 117 #[.string s, .func (.func 118) #[] #[]] w (CutPostG (parseA s.data.toList) w) := by
 have C := cutG_any s ⟨#[44, 32]⟩ hs (by decide) hp w hL
 have he := emptyT s
 by_cases h0 : s.size = 0
 ·
  have hn : s.data.toList = [] := List.eq_nil_of_length_eq_zero (by rw [← sizeOf]; exact h0)
  rw [decide_eq_true h0] at he
  have HP : Hid (∀ w', Below w.heap.size w w' → CutPostG (parseA s.data.toList) w (.returned (.tuple #[.slice none 0 0, .int .i64 0])) w') := Lib.hid (fun w' hb => by rw [hn]; exact ⟨⟨_, [], rfl, rfl, OwnGs.nil _ _⟩, hb⟩)
  clear C h0 hn hp hs hL
  go_enter Tryz.func117, Tryz.ntmps117
  go_wp2
  go_ret2
  exact HP.out _ (Below.refl _ _)
 have hn : s.data.toList ≠ [] := fun e => h0 (by rw [sizeOf, e]; rfl)
 rw [decide_eq_false h0] at he
 have e : cutP parseG (ByteArray.mk #[44, 32]).data.toList s.data.toList = parseA s.data.toList := by unfold parseA; rw [if_neg hn]
 rw [e] at C
 cases hq : parseA s.data.toList with
 | none =>
  rw [hq] at C
  have C2 := C.mono (fun e w' h => cutPostG_none h)
  clear C hq e hL hp hs h0 hn
  go_enter Tryz.func117, Tryz.ntmps117
  go_wp2_with (go_at_call 149; (with_reducible refine C2.mono ?_); rintro e w1 ⟨rfl, hb⟩; have HB := Lib.hid hb; clear hb)
  go_ret2
  exact ⟨rfl, HB.out⟩
 | some l =>
  rw [hq] at C
  have C2 := C.mono (fun e w' h => cutPostG_some h)
  have HP : Hid (∀ v L w', fsts L = l → OwnGs w' w.heap.size v L → Below w.heap.size w w' → CutPostG (some l) w (.returned (.tuple #[v, .int .i64 0])) w') := Lib.hid (fun v L w' h0 h1 h2 => ⟨⟨v, L, rfl, h0, h1⟩, h2⟩)
  clear C hq e hL hp hs h0 hn
  go_enter Tryz.func117, Tryz.ntmps117
  go_wp2_with (go_at_call 149; (with_reducible refine C2.mono ?_); rintro e w1 ⟨a, n, c, L, rfl, hf, ho, hb⟩; have HF := Lib.hid hf; have HO := Lib.hid ho; have HB := Lib.hid hb; clear hb ho hf)
  go_ret2
  exact HP.out _ _ _ HF.out HO.out HB.out
theorem parseAllQ_any (s : ByteArray) (hs : s.size ≤ 100000) (hp : ∀ p ∈ Lib.splitN s.data.toList sepA 65, p.length ≤ 100000 ∧ ∀ q ∈ Lib.splitN p sepG 65, q.length ≤ 4000) (w : World) (hL : LaidQ w) : Calls Tryz.prog 69 #[.string s] w (CutPostG (parseA s.data.toList) w) := by
 have C := parseGroupsG_any s hs hp w hL
 cases hq : parseA s.data.toList with
 | none =>
  rw [hq] at C
  have C2 := C.mono (fun e w' h => cutPostG_none h)
  clear C hq hL hp hs
  go_enter Tryz.func69, Tryz.ntmps69
  go_wp2_with (go_at_call 117; (with_reducible refine C2.mono ?_); rintro e w1 ⟨rfl, hb⟩; have HB := Lib.hid hb; clear hb)
  go_ret2
  exact ⟨rfl, HB.out⟩
 | some l =>
  rw [hq] at C
  have C2 := C.mono (fun e w' h => cutPostG_some h)
  have HP : Hid (∀ v L w', fsts L = l → OwnGs w' w.heap.size v L → Below w.heap.size w w' → CutPostG (some l) w (.returned (.tuple #[v, .int .i64 0])) w') := Lib.hid (fun v L w' h0 h1 h2 => ⟨⟨v, L, rfl, h0, h1⟩, h2⟩)
  clear C hq hL hp hs
  go_enter Tryz.func69, Tryz.ntmps69
  go_wp2_with (go_at_call 117; (with_reducible refine C2.mono ?_); rintro e w1 ⟨a, n, c, L, rfl, hf, ho, hb⟩; have HF := Lib.hid hf; have HO := Lib.hid ho; have HB := Lib.hid hb; clear hb ho hf)
  go_ret2
  exact HP.out _ _ _ HF.out HO.out HB.out
end
section
open Go.RowKit
theorem join_snocQ (sep x : Bs) : ∀ (ps : List Bs), ps ≠ [] → Lib.join (ps ++ [x]) sep = Lib.join ps sep ++ (sep ++ x)
 | [], h => absurd rfl h
 | [p], _ => by
  have : [p] ++ [x] = p :: x :: [] := rfl
  rw [this, join_two, Lib.join_one, Lib.join_one]
 | p :: q :: ps, _ => by
  have ih := join_snocQ sep x (q :: ps) (by simp)
  have e : (p :: q :: ps) ++ [x] = p :: q :: (ps ++ [x]) := rfl
  have e2 : (q :: ps) ++ [x] = q :: (ps ++ [x]) := rfl
  rw [e, join_two, ← e2, ih, join_two]
  simp
theorem take_snocQ {α : Type} {l : List α} {k : Nat} {x : α} (h : l[k]? = some x) : l.take (k + 1) = l.take k ++ [x] := by
 rw [List.take_add_one, h]; rfl
theorem join6_any (sep : ByteArray) (hsep : sep.size ≤ 10) (v : Value) (ls : List Bs) (hl : ls.length ≤ 90000) (hs : ∀ p ∈ ls, p.length ≤ 10000000) (w : World) (h : HoldT w v ls) :
  Calls Tryz.prog 21 #[v, .string sep] w fun e w' => e = .returned (.string (bsT (Lib.join ls sep.data.toList))) ∧ w = w' := by
 obtain ⟨a, c, b, o, rfl, hc, ha, hcell⟩ := h
 have HC := Lib.hid hcell
 have HS := Lib.hid hs
 have HJL : Hid (∀ k, (Lib.join (ls.take k) sep.data.toList).length ≤ 90000 * 10000010) := Lib.hid (fun k => by
  have h1 := joinM_len sep.data.toList 10000000 (ls.take k) (fun p hp => hs p (List.mem_of_mem_take hp))
  have h2 : (ls.take k).length ≤ 90000 := Nat.le_trans (List.length_take_le' _ _) hl
  have h3 : (ls.take k).length * (10000000 + sep.data.toList.length) ≤ 90000 * 10000010 := Nat.mul_le_mul h2 (by rw [← sizeOf]; omega)
  omega)
 obtain ⟨n, hN⟩ : ∃ n, ls.length = n := ⟨_, rfl⟩
 rw [hN] at hc ha hl ⊢
 have HN := Lib.hid hN
 clear hcell hN hs
 go_enter Tryz.func21, Tryz.ntmps21
 go_wp2
 go_loop [5, 6] (fun z i => ∃ (k : Nat) (S : ByteArray), k ≤ n ∧ i = .int .i64 k ∧ z = .string S ∧ S.size ≤ 900000900000 ∧ Hid (S.data.toList = Lib.join (ls.take k) sep.data.toList)) (fun _ i => n - (intOf i).toNat)
 case atStart => exact ⟨0, ⟨#[]⟩, by omega, rfl, rfl, by decide, Lib.hid rfl⟩
 case round =>
  obtain ⟨k, S, hk, rfl, rfl, hS, HZ⟩ := hrel
  by_cases hlt : k < n
  ·
   obtain ⟨rfl, hbw⟩ := ha (by omega)
   obtain ⟨p, hp⟩ : ∃ p, ls[k]? = some p := ⟨_, List.getElem?_eq_getElem (by rw [HN.out]; exact hlt)⟩
   have c0 := HC.out k p hp
   have hpl := HS.out p (List.mem_of_getElem? hp)
   have hj := HJL.out (k + 1)
   have hts := take_snocQ hp
   obtain ⟨P, hP⟩ : ∃ P : ByteArray, (⟨p.toArray⟩ : ByteArray) = P := ⟨_, rfl⟩
   have hPL : P.data.toList = p := by rw [← hP]
   have hPs : P.size ≤ 10000000 := by rw [sizeOf, hPL]; exact hpl
   rw [hP] at c0
   by_cases h0 : k = 0
   ·
    subst h0
    have HZ2 : Hid ((S ++ P).data.toList = Lib.join (ls.take (0 + 1)) sep.data.toList) := Lib.hid (by
     rw [hts, ByteArray.data_append, Array.toList_append, HZ.out, hPL]
     simp [Lib.join, List.intercalate])
    have hs2 : (S ++ P).size ≤ 900000900000 := by rw [sizeOf, HZ2.out]; omega
    have q3 : ¬ 9223372036854775807 < S.size + P.size := by omega
    rw [Nat.add_zero] at c0
    clear hp hP hPL hj hts hpl
    go_wp2
    go_round
    case rel => exact ⟨1, _, by omega, rfl, rfl, hs2, HZ2⟩
    case measure => simp [intOf]; omega
   ·
    have hne : ls.take k ≠ [] := fun e => by
     have := congrArg List.length e
     rw [List.length_take, HN.out] at this
     simp at this; omega
    have HZ2 : Hid (((S ++ sep) ++ P).data.toList = Lib.join (ls.take (k + 1)) sep.data.toList) := Lib.hid (by
     rw [hts, join_snocQ _ _ _ hne, ByteArray.data_append, Array.toList_append, ByteArray.data_append, Array.toList_append, HZ.out, hPL, List.append_assoc])
    have hs2 : ((S ++ sep) ++ P).size ≤ 900000900000 := by rw [sizeOf, HZ2.out]; omega
    have q2 : ¬ 9223372036854775807 < S.size + sep.size := by omega
    have q4 : (S ++ sep).size = S.size + sep.size := ByteArray.size_append
    have q3 : ¬ 9223372036854775807 < S.size + sep.size + P.size := by omega
    have hk0 : 0 < k := by omega
    clear hp hP hPL hj hts hpl hne h0
    go_wp2
    go_round
    case rel => exact ⟨k + 1, _, by omega, by go_num, rfl, hs2, HZ2⟩
    case measure => simp [intOf]; omega
  ·
   obtain rfl : k = n := by omega
   have HE : Hid (bsT (Lib.join ls sep.data.toList) = S) := Lib.hid (by
    have := HZ.out
    rw [List.take_of_length_le (by rw [HN.out]; omega)] at this
    rw [← this])
   clear hlt
   go_wp2
   go_ret
   exact ⟨by rw [HE.out]; rfl, rfl⟩
end
section
open Go.RowKit
theorem long_miss {l : List Gv} (h : ∀ (j : Nat) y, l[j]? = some y → longG y.1 = false) : (fsts l).any longG = false := by
 rw [List.any_eq_false]
 intro g hg
 obtain ⟨x, hx, rfl⟩ := List.mem_map.1 hg
 obtain ⟨j, hj⟩ := List.mem_iff_getElem?.1 hx
 rw [h j x hj]; simp
theorem long_hit {l : List Gv} {k : Nat} {x : Gv} (h : l[k]? = some x) (hb : longG x.1 = true) : (fsts l).any longG = true := List.any_eq_true.2 ⟨x.1, List.mem_map_of_mem (List.mem_of_getElem? h), hb⟩
theorem all_takeQ {g : List Rl} (h : ∀ (j : Nat) y, g[j]? = some y → rightR y = true) : g.all rightR = true := by
 rw [List.all_eq_true]
 intro y hy
 obtain ⟨j, hj⟩ := List.mem_iff_getElem?.1 hy
 exact h j y hj
theorem all_badQ {g : List Rl} {k : Nat} {x : Rl} (h : g[k]? = some x) (hr : rightR x = false) : g.all rightR = false := by
 rw [List.all_eq_false]
 exact ⟨x, List.mem_of_getElem? h, by rw [hr]; simp⟩
theorem OwnT.formQ {w : World} {B : Nat} {v : Value} {ls : List Bs} (h : OwnT w B v ls) : ∃ a c, v = .slice a ls.length c := by
 obtain ⟨a, c, b, o, e, _⟩ := h.holds; exact ⟨a, c, e⟩
theorem OwnT.onQ {w w' : World} {B : Nat} {v : Value} {ls : List Bs} (h : OwnT w B v ls) (hb : Below w.heap.size w w') : OwnT w' B v ls := World.ownsRow.kept h (grownV hb) (by cases v.ownBlock <;> simp)
end
section
open Go.RowKit
theorem sameQ_ref (u v : Value) (l : List Rl) (hl : l.length ≤ 90000) (w : World) (h1 : HoldQ w u l) (h2 : HoldQ w v l) : Calls Tryz.prog 75 #[u, v] w fun e w' => e = .returned (.bool true) ∧ ∃ q, w' = w.drewN q := by
 obtain ⟨a1, c1, b1, o1, rfl, hc1, ha1, hl1⟩ := h1.parts
 obtain ⟨a2, c2, b2, o2, rfl, hc2, ha2, hl2⟩ := h2.parts
 have H1 := Lib.hid hl1
 have H2 := Lib.hid hl2
 obtain ⟨n, hN⟩ : ∃ n, l.length = n := ⟨_, rfl⟩
 rw [hN] at hc1 ha1 hc2 ha2 hl ⊢
 have HN := Lib.hid hN
 clear hl1 hl2 hN h1 h2
 go_enter Tryz.func75, Tryz.ntmps75
 go_wp2
 go_loopw [5] (fun i wr => ∃ k : Nat, k ≤ n ∧ i = .int .i64 k ∧ Hid (∃ q, wr = w.drewN q)) (fun i _ => n - (intOf i).toNat)
 case atStart => exact ⟨0, by omega, rfl, Lib.hid ⟨0, rfl⟩⟩
 case round =>
  obtain ⟨k, hk, rfl, HQ⟩ := hrel
  by_cases hlt : k < n
  ·
   obtain ⟨rfl, hbw1⟩ := ha1 (by omega)
   obtain ⟨rfl, hbw2⟩ := ha2 (by omega)
   obtain ⟨⟨t, m, u⟩, hx⟩ : ∃ x, l[k]? = some x := ⟨_, List.getElem?_eq_getElem (by rw [HN.out]; exact hlt)⟩
   obtain ⟨q, hw⟩ := HQ.out
   obtain ⟨d0, d1, d2⟩ := H1.out k _ hx
   obtain ⟨f0, f1, f2⟩ := H2.out k _ hx
   dsimp only at d0 d1 d2 f0 f1 f2
   rw [← World.cell?_drewN w q] at d0 d1 d2 f0 f1 f2
   rw [← hw] at d0 d1 d2 f0 f1 f2
   have HMM : Hid (∀ m', ∃ q, wr.drewN m' = w.drewN q) := Lib.hid (fun m' => ⟨q + m', by rw [hw, World.drewN_drewN]⟩)
   generalize bsT t = X at *
   generalize bsT m = Y at *
   generalize bsT u = Z at *
   have q0 := eqT X X
   rw [decide_eq_true rfl] at q0
   have q1 := eqT Y Y
   rw [decide_eq_true rfl] at q1
   have q2 := eqT Z Z
   rw [decide_eq_true rfl] at q2
   have j0 : (0 : Int) ≤ (k : Int) := by omega
   have j1 : (k : Int) < (n : Int) := by omega
   clear hx hw HQ
   go_wp2
   go_quiet (fail)
   go_wp2
   go_roundw
   case rel => exact ⟨k + 1, by omega, by go_num, Lib.hid (HMM.out _)⟩
   case measure => simp [intOf]; omega
  ·
   obtain rfl : k = n := by omega
   clear hlt
   go_wp2
   go_ret
   exact ⟨rfl, HQ.out⟩
theorem sameG_ref (u v : Value) (L M : List Gv) (hLM : fsts L = fsts M) (hl : L.length ≤ 90000) (hp : ∀ p ∈ L, p.1.length ≤ 90000) (w : World) (h1 : HoldGs w u L) (h2 : HoldGs w v M) : Calls Tryz.prog 74 #[u, v] w fun e w' => e = .returned (.bool true) ∧ Below w.heap.size w w' := by
 have hlm : M.length = L.length := by have := congrArg List.length hLM; simpa [fsts] using this.symm
 obtain ⟨a1, c1, b1, o1, rfl, hc1, ha1, hl1⟩ := h1.parts
 obtain ⟨a2, c2, b2, o2, rfl, hc2, ha2, hl2⟩ := h2.parts
 have H1 := Lib.hid hl1
 have H2 := Lib.hid hl2
 have HI1 := Lib.hid h1.2
 have HI2 := Lib.hid h2.2
 have HPL := Lib.hid hp
 have HLM : Hid (∀ (k : Nat) p r, L[k]? = some p → M[k]? = some r → r.1 = p.1) := Lib.hid (fun k p r hp hr => by
  have := congrArg (fun l => l[k]?) hLM
  simp only [fsts, List.getElem?_map, hp, hr, Option.map_some, Option.some.injEq] at this
  exact this.symm)
 obtain ⟨n, hN⟩ : ∃ n, L.length = n := ⟨_, rfl⟩
 rw [hlm] at hc2 ha2 ⊢
 rw [hN] at hc1 ha1 hc2 ha2 hl hlm ⊢
 have HN := Lib.hid hN
 have HM := Lib.hid hlm
 clear hl1 hl2 hN hlm hLM hp h1 h2
 go_enter Tryz.func74, Tryz.ntmps74
 go_wp2
 go_loopw [5] (fun i wr => ∃ k : Nat, k ≤ n ∧ i = .int .i64 k ∧ Hid (Below w.heap.size w wr)) (fun i _ => n - (intOf i).toNat)
 case atStart => exact ⟨0, by omega, rfl, Lib.hid (Below.refl _ _)⟩
 case round =>
  obtain ⟨k, hk, rfl, HB⟩ := hrel
  have hsz := HB.out.size
  by_cases hlt : k < n
  ·
   obtain ⟨rfl, hbw1⟩ := ha1 (by omega)
   obtain ⟨rfl, hbw2⟩ := ha2 (by omega)
   obtain ⟨⟨g0, sv⟩, hp⟩ : ∃ x, L[k]? = some x := ⟨_, List.getElem?_eq_getElem (by rw [HN.out]; exact hlt)⟩
   obtain ⟨⟨g1, tv⟩, hr⟩ : ∃ x, M[k]? = some x := ⟨_, List.getElem?_eq_getElem (by rw [HM.out]; exact hlt)⟩
   have he := HLM.out k _ _ hp hr
   have d0 := H1.out k _ hp
   have f0 := H2.out k _ hr
   have k1 := HI1.out _ (List.mem_of_getElem? hp)
   have k2 := HI2.out _ (List.mem_of_getElem? hr)
   have k3 := HPL.out _ (List.mem_of_getElem? hp)
   dsimp only at he d0 f0 k1 k2 k3
   subst he
   rw [← HB.out.cell (p := ⟨b1, o1 + k, none⟩) hbw1] at d0
   rw [← HB.out.cell (p := ⟨b2, o2 + k, none⟩) hbw2] at f0
   have SA := fun V (hb : Below w.heap.size w V) => (sameQ_ref sv tv g1 k3 V (HoldV.on k1 hb) (HoldV.on k2 hb)).mono (fun _ w' hp => (⟨hp.1, by obtain ⟨q, hq⟩ := hp.2; rw [hq]; exact belowQ (Below.refl _ _) q⟩ : _ ∧ Below V.heap.size V w'))
   obtain ⟨sa, sc, -, -, rfl, -⟩ := k1.parts
   obtain ⟨ta, tc, -, -, rfl, -⟩ := k2.parts
   generalize g1.length = gn at *
   have j0 : (0 : Int) ≤ (k : Int) := by omega
   have j1 : (k : Int) < (n : Int) := by omega
   clear hp hr k1 k2 k3 HLM HPL H1 H2 HI1 HI2 hbw1 hbw2
   have hs := And.intro d0 (And.intro f0 HB.out)
   go_wp2
   have KQ := Lib.hid (atK w [(⟨b1, o1 + k, none⟩, .slice sa gn sc), (⟨b2, o2 + k, none⟩, .slice ta gn tc)])
   have BE := fun (V : World) (h : V.cell? ⟨b1, o1 + k, none⟩ = some (.slice sa gn sc) ∧ V.cell? ⟨b2, o2 + k, none⟩ = some (.slice ta gn tc) ∧ Below w.heap.size w V) => AtF.be (w := w) (l := [(⟨b1, o1 + k, none⟩, .slice sa gn sc), (⟨b2, o2 + k, none⟩, .slice ta gn tc)]) h
   go_region_held3 (fun V => V.cell? ⟨b1, o1 + k, none⟩ = some (.slice sa gn sc) ∧ V.cell? ⟨b2, o2 + k, none⟩ = some (.slice ta gn tc) ∧ Below w.heap.size w V)
    (first | assumption | exact hs | exact KQ.out.dr _ hs | exact KQ.out.dr _ (by assumption) | exact KQ.out.on _ _ (by assumption) (by assumption) | exact KQ.out.al _ _ (by assumption) | exact KQ.out.ald _ _ (by assumption) | exact KQ.out.al _ _ hs | exact KQ.out.ald _ _ hs)
    (((go_at_call 75; (with_reducible refine (SA _ (BE _ (by assumption))).mono ?_); rintro e w3 ⟨rfl, hb⟩)))
   all_goals
    rename_i hHeld
    have HB3 := Lib.hid (BE _ hHeld)
    clear hHeld
    go_wp2
    go_roundw
    case rel => exact ⟨k + 1, by omega, by go_num, HB3⟩
    case measure => simp [intOf]; omega
  ·
   obtain rfl : k = n := by omega
   clear hlt
   go_wp2
   go_ret
   exact ⟨rfl, HB.out⟩
end
section
open Go.RowKit
theorem OwnQ.lit (w : World) (B : Nat) (P Q Z : ByteArray) (hB : B ≤ w.heap.size) : OwnQ (w.alloc (.cells #[.string P, .string Q, .string Z] 46)) B (.slice (some ⟨w.heap.size, 0, none⟩) 1 1) [(P.data.toList, Q.data.toList, Z.data.toList)] :=
 ⟨cellsQ_len _, rfl, .inr ⟨w.heap.size, 1, #[.string P, .string Q, .string Z], rfl, hB, heap_alloc_new w _, Nat.le_refl _, by decide, rfl, by simp⟩⟩
abbrev onesL (l : List Rl) : List (List Rl) := l.map fun x => [x]
theorem ones_all (l : List Rl) : allE (onesL l) = listE l := by
 unfold allE listE
 have h1 : (onesL l).any longG = false := by
  rw [List.any_eq_false]
  intro g hg
  obtain ⟨x, _, rfl⟩ := List.mem_map.1 hg
  simp [longG]
 have h2 : (onesL l).any badG = !l.all rightR := by
  rw [List.any_map, List.not_all_eq_any_not]
  congr 1
  funext x
  simp [badG]
 have h3 : textA (onesL l) = textQ l := by
  unfold textA textQ
  rw [List.map_map]
  congr 1
  apply List.map_congr_left
  intro x _
  exact Lib.join_one (textR x) sepG
 rw [h1, h2, h3, Bool.or_false, List.length_map]
 by_cases g : 64 < l.length
 ·
  rw [if_pos (by simpa using g), if_pos g]
 ·
  rw [if_neg (by simpa using g), if_neg g]
  cases l.all rightR <;> simp
theorem ones_ref (v : Value) (l : List Rl) (hl : l.length ≤ 90000) (w : World) (h : HoldQ w v l) : Calls Tryz.prog 49 #[v] w fun e w' => (∃ a c L, e = .returned (.slice a l.length c) ∧ fsts L = onesL l ∧ OwnGs w' w.heap.size (.slice a l.length c) L) ∧ Below w.heap.size w w' := by
 obtain ⟨i0, hi, hz0, hz1, hz2'⟩ := info_parts infoSl
 obtain ⟨a, c, b, o, rfl, hc, ha, hcell⟩ := h.parts
 have HC := Lib.hid hcell
 have HP : Hid (∀ v' L W, fsts L = onesL l → OwnGs W w.heap.size v' L → ∃ a c L, v' = .slice a l.length c ∧ fsts L = onesL l ∧ OwnGs W w.heap.size (.slice a l.length c) L) := Lib.hid (fun v' L W h1 h2 => by
  obtain ⟨a, c, e⟩ := OwnV.form h2.1
  have hlen : L.length = l.length := by have := congrArg List.length h1; simpa [fsts, onesL] using this
  rw [List.length_map, hlen] at e
  subst e
  exact ⟨a, c, L, rfl, h1, h2⟩)
 obtain ⟨n, hN⟩ : ∃ n, l.length = n := ⟨_, rfl⟩
 rw [hN] at hc ha hl HP ⊢
 have HN := Lib.hid hN
 clear hcell hN h
 go_enter Tryz.func49, Tryz.ntmps49
 go_wp2
 go_loopw [3, 4] (fun u i wr => ∃ (k : Nat) (L : List Gv), k ≤ n ∧ i = .int .i64 k ∧ L.length = k ∧ Hid (fsts L = onesL (l.take k)) ∧ Hid (OwnGs wr w.heap.size u L) ∧ Hid (Below w.heap.size w wr)) (fun _ i _ => n - (intOf i).toNat)
 case atStart => exact ⟨0, [], by omega, rfl, rfl, Lib.hid rfl, Lib.hid (OwnGs.nil _ _), Lib.hid (Below.refl _ _)⟩
 case round =>
  obtain ⟨k, L, hk, rfl, hLk, HF, HO, HB⟩ := hrel
  have hsz := HB.out.size
  by_cases hlt : k < n
  ·
   obtain ⟨rfl, hbw⟩ := ha (by omega)
   obtain ⟨⟨p, q, z⟩, hx⟩ : ∃ x, l[k]? = some x := ⟨_, List.getElem?_eq_getElem (by rw [HN.out]; exact hlt)⟩
   obtain ⟨c0, c1, c2⟩ := HC.out k _ hx
   dsimp only at c0 c1 c2
   rw [← HB.out.cell (p := ⟨b, o + k * 3, none⟩) hbw] at c0
   rw [← HB.out.cell (p := ⟨b, o + k * 3 + 1, none⟩) hbw] at c1
   rw [← HB.out.cell (p := ⟨b, o + k * 3 + 2, none⟩) hbw] at c2
   have HF2 : Hid (∀ sv, fsts (L ++ [([(p, q, z)], sv)]) = onesL (l.take (k + 1))) := Lib.hid (fun sv => by
    rw [take_snocQ hx]; simp only [fsts, onesL, List.map_append, List.map_cons, List.map_nil] at *; rw [HF.out])
   have HLT := Lib.hid (OwnQ.lit wr w.heap.size (bsT p) (bsT q) (bsT z) hsz)
   rw [bytesOf, bytesOf, bytesOf] at HLT
   generalize bsT p = P at *
   generalize bsT q = Q at *
   generalize bsT z = Z at *
   have b1 := (Below.refl wr.heap.size wr).alloc (Nat.le_refl _) (.cells #[.string P, .string Q, .string Z] 46)
   have HO1 := Lib.hid (HO.out.on b1)
   have HB1 := Lib.hid (HB.out.trans (b1.mono hsz))
   clear hx b1 HF
   go_wp2_with (at_builtin; refine wpList_append_own _ rfl _ _ 38 rfl w.heap.size 39 i0 _ 1 24 Tryz.underlying38 hi hz0 hz1 hz2' rfl (by decide) _ _ _ rfl (World.ownsRow.alloc HO1.out.1.2 _) ⟨wr.heap.size + 1, 0, none⟩ 1 1 [.slice (some ⟨wr.heap.size, 0, none⟩) 1 1] rfl rfl ?c1 ?c2 ?c3 ?c4 ?c5 ?_)
   case c2 => rfl
   case c3 => unfold maxLen; omega
   case c4 => omega
   case c5 => omega
   intro v' w3 hown' hgrow _
   have HO3 : Hid (OwnGs w3 w.heap.size v' (L ++ [([(p, q, z)], .slice (some ⟨wr.heap.size, 0, none⟩) 1 1)])) := Lib.hid (OwnGs.app HO1.out HLT.out (by rw [hLk]; simpa using hown') hgrow)
   have HB3 : Hid (Below w.heap.size w w3) := Lib.hid (OwnV.below HB1.out HO1.out.1 hgrow (Nat.le_refl _) HB1.out.size)
   have HF3 := Lib.hid (HF2.out (.slice (some ⟨wr.heap.size, 0, none⟩) 1 1))
   have hl3 : (L ++ [([(p, q, z)], Value.slice (some ⟨wr.heap.size, 0, none⟩) 1 1)]).length = k + 1 := by rw [List.length_append, hLk]; rfl
   have HL3 := Lib.hid hl3
   clear hown' hgrow hl3
   go_wp2
   go_roundw
   case rel => exact ⟨k + 1, _, by omega, by go_num, HL3.out, HF3, HO3, HB3⟩
   case measure => simp [intOf]; omega
  ·
   obtain rfl : k = n := by omega
   have hfe : fsts L = onesL l := by rw [HF.out, List.take_of_length_le (by rw [HN.out]; omega)]
   have G := Lib.hid (HP.out _ _ _ hfe HO.out)
   clear hlt hfe
   go_wp2
   obtain ⟨a', c', L', hv, h1, h2⟩ := G.out
   subst hv
   have H1 := Lib.hid h1
   have H2 := Lib.hid h2
   clear h1 h2 G
   go_ret
   exact ⟨⟨_, _, L', rfl, H1.out, H2.out⟩, HB.out⟩
end
end Go.Proofs.YtkbkaeefdhkgdaaGreatDoor
