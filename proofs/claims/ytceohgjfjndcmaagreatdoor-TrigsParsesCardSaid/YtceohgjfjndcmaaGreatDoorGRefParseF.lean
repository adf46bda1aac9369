/-
  The reference's Parse of interests: what it returns; nothing old turns. The reference's ParseFired: what it returns; nothing old turns.
-/
import Derived.Test.YtceohgjfjndcmaaGreatDoorGParse
import Derived.Test.YtceohgjfjndcmaaGreatDoorSWords
import Derived.BigRegion
import Derived.RangeFuncBox
import Derived.Test.YtceohgjfjndcmaaGreatDoorGRefPrintF
import Derived.Test.YtceohgjfjndcmaaGreatDoorGParseF
import Derived.Deep.AppendLies
import Derived.Deep.RegionLaw
namespace Go.Proofs.YtceohgjfjndcmaaGreatDoor
open Go.RowKit
theorem OwnV.set {T : TypeId} {k : Nat} {w : World} {base : Nat} {v : Value} {rows : List Rw} (h : OwnV T k w base v rows) {b : Nat} (hb : v.ownBlock ≠ some b) (i : Nat) (u : Value) : OwnV T k (w.setCell ⟨b, i, none⟩ u) base v rows :=
  ⟨h.1, World.ownsRow.kept h.2 (row := some b) ⟨rfl, rfl, rfl, (KeepsWalks.setCell w ⟨b, i, none⟩ u).size, fun k _ hk => Below.heap_setCell _ _ _ k (fun e => hk (by rw [e]))⟩ (.inr hb)⟩
theorem OwnV.apart {T : TypeId} {k : Nat} {w : World} {base : Nat} {v : Value} {rows : List Rw} (h : OwnV T k w base v rows) {b : Nat} (hb : w.heap.size ≤ b) : v.ownBlock ≠ some b := fun e => by
  have := (World.ownsRow.lt h.2 b e).2
  omega
def RPaPostI (s : Bs) (w : World) (e : Ending) (w' : World) : Prop := ∃ v b, e = .returned (.tuple #[v, .bool b]) ∧ (∀ l, parseI s = some l → b = true ∧ HoldI w' v l) ∧ (parseI s = none → b = false ∧ v = .slice none 0 0) ∧ Below w.heap.size w w'
theorem readR_len {p : Bs} {x : It} (h : readR p = some x) : x.1.length ≤ p.length ∧ x.2.1.length ≤ p.length := by
  unfold readR at h
  split at h
  · rename_i a b e
    have ha := spl_piece 32 p a (by rw [e]; simp)
    have hb := spl_piece 32 p b (by rw [e]; simp)
    cases h
    refine ⟨ha, ?_⟩
    dsimp only
    split
    · rename_i q r e2
      have hq := spl_piece 47 b q (by rw [e2]; simp)
      split
      · exact Nat.le_trans hq hb
      · exact hb
    · exact hb
  · cases h
theorem readsR_snoc : ∀ {ls : List Bs} {k : Nat} {p : Bs} {L : List It}, readsR (ls.take k) = some L → ls[k]? = some p → readsR (ls.take (k + 1)) = (readR p).map fun x => L ++ [x]
  | [], k, p, L, _, h => by simp at h
  | s :: ls, 0, p, L, h1, h2 => by
    simp only [List.take_zero, readsR, Option.some.injEq] at h1
    simp only [List.getElem?_cons_zero, Option.some.injEq] at h2
    subst h1 h2
    rw [Nat.zero_add, List.take_succ_cons, List.take_zero, readsR]
    cases readR s <;> rfl
  | s :: ls, k + 1, p, L, h1, h2 => by
    rw [List.take_succ_cons, readsR] at h1
    rw [List.take_succ_cons, readsR]
    cases hr : readR s with
    | none => rw [hr] at h1; cases h1
    | some x =>
      rw [hr] at h1
      cases hs : readsR (ls.take k) with
      | none => rw [hs] at h1; cases h1
      | some xs =>
        rw [hs] at h1
        cases h1
        have := readsR_snoc hs (by simpa using h2 : ls[k]? = some p)
        rw [this]
        cases readR p <;> rfl
theorem readsR_stop : ∀ {ls : List Bs} {k : Nat} {p : Bs}, ls[k]? = some p → readR p = none → readsR ls = none
  | [], k, p, h, _ => by simp at h
  | s :: ls, 0, p, h, g => by
    simp only [List.getElem?_cons_zero, Option.some.injEq] at h
    subst h
    rw [readsR, g]
  | s :: ls, k + 1, p, h, g => by
    rw [readsR, readsR_stop (by simpa using h : ls[k]? = some p) g]
    cases readR s <;> rfl
theorem readsR_len : ∀ {ls : List Bs} {L : List It}, readsR ls = some L → L.length = ls.length
  | [], L, h => by cases h; rfl
  | s :: ls, L, h => by
    rw [readsR] at h
    cases hr : readR s with
    | none => rw [hr] at h; cases h
    | some x =>
      rw [hr] at h
      cases hs : readsR ls with
      | none => rw [hs] at h; cases h
      | some xs => rw [hs] at h; cases h; rw [List.length_cons, List.length_cons, readsR_len hs]
theorem readsR_small : ∀ {ls : List Bs} {L : List It}, readsR ls = some L → (∀ p ∈ ls, p.length ≤ 4000) → SmallI L
  | [], L, h, _ => by cases h; intro x hx; simp at hx
  | s :: ls, L, h, hp => by
    rw [readsR] at h
    cases hr : readR s with
    | none => rw [hr] at h; cases h
    | some x =>
      rw [hr] at h
      cases hs : readsR ls with
      | none => rw [hs] at h; cases h
      | some xs =>
        rw [hs] at h
        cases h
        intro y hy
        rcases List.mem_cons.1 hy with rfl | hy
        · have := readR_len hr
          have := hp s (by simp)
          omega
        · exact readsR_small hs (fun p h => hp p (by simp [h])) y hy
theorem readR_two {p x y : Bs} (h : spl 32 p = [x, y]) : (readR p).isSome := by unfold readR; rw [h]; rfl
theorem readR_bad {p : Bs} (h : (spl 32 p).length ≠ 2) : readR p = none := by
  unfold readR
  split
  · rename_i a b e; rw [e] at h; simp at h
  · rfl
theorem readR_yes {p x y q : Bs} (h : spl 32 p = [x, y]) (h2 : spl 47 y = [q, noaw.tail]) : readR p = some (x, q, true) := by unfold readR; rw [h]; simp [h2]
theorem readR_no {p x y : Bs} (h : spl 32 p = [x, y]) (h2 : ∀ q, spl 47 y ≠ [q, noaw.tail]) : readR p = some (x, y, false) := by
  unfold readR; rw [h]
  simp only [Option.some.injEq, Prod.mk.injEq, true_and]
  split
  · rename_i a b e
    rw [if_neg (fun g => h2 a (by rw [e, g]))]
  · rfl
theorem two_of {l : List Bs} (h : l.length = 2) : ∃ x y, l = [x, y] := by
  match l, h with
  | [x, y], _ => exact ⟨x, y, rfl⟩
theorem HoldT.two {w : World} {v : Value} {x y : Bs} (h : HoldT w v [x, y]) : ∃ c b o, v = .slice (some ⟨b, o, none⟩) 2 c ∧ b < w.heap.size ∧ w.cell? ⟨b, o, none⟩ = some (.string ⟨x.toArray⟩) ∧ w.cell? ⟨b, o + 1, none⟩ = some (.string ⟨y.toArray⟩) := by
  obtain ⟨a, c, b, o, rfl, hc, ha, hcell⟩ := h
  obtain ⟨rfl, hb⟩ := ha (by simp)
  exact ⟨c, b, o, rfl, hb, hcell 0 _ rfl, hcell 1 _ rfl⟩
theorem HoldT.len {w : World} {v : Value} {l : List Bs} (h : HoldT w v l) : ∃ a c, v = .slice a l.length c := by
  obtain ⟨a, c, b, o, rfl, _⟩ := h; exact ⟨a, c, rfl⟩
theorem Box3.set1 {w : World} {b : Nat} {x y z : Value} (h : Box3 w b x y z) (u : Value) : Box3 (w.setCell ⟨b, 1, none⟩ u) b x u z := by
  have o : ∀ (A : World) (i j : Nat) (u v : Value), i ≠ j → A.cell? ⟨b, j, none⟩ = some v → (A.setCell ⟨b, i, none⟩ u).cell? ⟨b, j, none⟩ = some v := fun A i j u v hij hv => (World.cell?_setCell_other _ _ _ _ (fun e => hij (congrArg Addr.off e))).trans hv
  exact ⟨o _ 1 0 _ _ (by omega) h.c0, World.cell?_setCell_same _ _ _ h.c1, o _ 1 2 _ _ (by omega) h.c2, fun i => by rw [World.frozen?_setCell]; exact h.f i⟩
theorem Box3.set2 {w : World} {b : Nat} {x y z : Value} (h : Box3 w b x y z) (u : Value) : Box3 (w.setCell ⟨b, 2, none⟩ u) b x y u := by
  have o : ∀ (A : World) (i j : Nat) (u v : Value), i ≠ j → A.cell? ⟨b, j, none⟩ = some v → (A.setCell ⟨b, i, none⟩ u).cell? ⟨b, j, none⟩ = some v := fun A i j u v hij hv => (World.cell?_setCell_other _ _ _ _ (fun e => hij (congrArg Addr.off e))).trans hv
  exact ⟨o _ 2 0 _ _ (by omega) h.c0, o _ 2 1 _ _ (by omega) h.c1, World.cell?_setCell_same _ _ _ h.c2, fun i => by rw [World.frozen?_setCell]; exact h.f i⟩
open Classical in
set_option maxRecDepth 100000 in
set_option maxHeartbeats 16000000 in
theorem parseI_ref (s : ByteArray) (hs : s.size ≤ 90000) (hp : ∀ p ∈ spl 10 s.data.toList, p.length ≤ 4000) (w : World) : Calls Tryz.prog 22 #[.string s] w (RPaPostI s.data.toList w) := by
  have L := fun w => lines_ref s (by omega) w
  unfold LinesPost at L
  have HBAD : Hid (∀ w', parseI s.data.toList = none → Below w.heap.size w w' → RPaPostI s.data.toList w (.returned (.tuple #[.slice none 0 0, .bool false])) w') := Lib.hid (fun w' h hb => ⟨_, false, rfl, fun l hl => (by rw [h] at hl; cases hl), fun _ => ⟨rfl, rfl⟩, hb⟩)
  have HOK : Hid (∀ l v w', parseI s.data.toList = some l → HoldI w' v l → Below w.heap.size w w' → RPaPostI s.data.toList w (.returned (.tuple #[v, .bool true])) w') := Lib.hid (fun l v w' h h1 hb => ⟨v, true, rfl, fun l' hl => (by rw [h] at hl; cases hl; exact ⟨rfl, h1⟩), fun hn => (by rw [h] at hn; cases hn), hb⟩)
  have HGOOD := Lib.hid (fun l h => parseI_good (s := s.data.toList) (l := l) h)
  have HSTOP := Lib.hid (fun h => parseI_bad (s := s.data.toList) h)
  obtain ⟨ls, hls⟩ : ∃ ls, (spl 10 s.data.toList).dropLast = ls := ⟨_, rfl⟩
  rw [hls] at HGOOD HSTOP
  simp only [hls] at L
  have hl1 : ls.length ≤ s.size := by
    have := spl_len 10 s.data.toList
    rw [← hls, List.length_dropLast, sizeOf]; omega
  have hl2 : ∀ p ∈ ls, p.length ≤ 4000 := fun p h => hp p (by rw [← hls] at h; exact (List.dropLast_sublist _).subset h)
  have HP4 := Lib.hid hl2
  obtain ⟨i0, hi, hz0, hz1, hz2'⟩ := info_parts infoI
  obtain ⟨B, hB⟩ : ∃ B : Bool, decide ((spl 10 s.data.toList).getLast? = some []) = B := ⟨_, rfl⟩
  simp only [hB] at L
  have HBB : Hid (∀ l, readsR ls = some l → parseI s.data.toList = if B = true ∧ printI l = (s.data.toList, 0) then some l else none) := Lib.hid (fun l h => by
    rw [HGOOD.out l h, ← hB]; simp)
  obtain ⟨n, hN⟩ : ∃ n, ls.length = n := ⟨_, rfl⟩
  rw [hN] at hl1
  have HN := Lib.hid hN
  clear hp hl2 hls hB HGOOD
  go_enter Tryz.func22, Tryz.ntmps22
  go_wp2_with (go_at_call 51; refine (L _).mono ?_; rintro e w1 ⟨v, rfl, hh, hb⟩; obtain ⟨a, c, b, o, rfl, hc, ha, hcell⟩ := hh; rw [HN.out] at hc ha ⊢; have HC := Lib.hid hcell; have HB1 := Lib.hid hb; clear hcell hb L)
  have hsz1 := HB1.out.size
  clear hN
  go_loopw [4, 7] (fun u i wr => ∃ k : Nat, k ≤ n ∧ i = .int .i64 k ∧ Hid (∃ M, readsR (ls.take k) = some M ∧ OwnI wr w1.heap.size u M) ∧ Hid (Below w1.heap.size w1 wr)) (fun _ i _ => n - (intOf i).toNat)
  case atStart => exact ⟨0, by omega, rfl, Lib.hid ⟨[], rfl, OwnV.nil _ _ _ _⟩, Lib.hid (Below.refl _ _)⟩
  case round =>
    obtain ⟨k, hk, rfl, HO, HB⟩ := hrel
    obtain ⟨M, hM, hO⟩ := HO.out
    have HM := Lib.hid hM
    have hMl : M.length = k ∨ n < k := by
      have := readsR_len hM
      rw [List.length_take, HN.out] at this; omega
    have HO2 := Lib.hid hO
    have hsz := HB.out.size
    clear hM hO HO
    by_cases hlt : k < n
    · obtain ⟨rfl, hbw⟩ := ha (by omega)
      obtain ⟨p, hp⟩ : ∃ p, ls[k]? = some p := ⟨_, List.getElem?_eq_getElem (by rw [HN.out]; exact hlt)⟩
      have c0 := HC.out k p hp
      rw [← HB.out.cell (p := ⟨b, o + k, none⟩) hbw] at c0
      have hp4 := HP4.out p (List.mem_of_getElem? hp)
      have SP : ∀ W, Calls Tryz.prog 52 #[.string ⟨p.toArray⟩, .int .u8 32] W fun e w' => ∃ v, e = .returned v ∧ OwnT w' W.heap.size v (spl 32 p) ∧ Below W.heap.size W w' := fun W => by
        have := split_ref6 ⟨p.toArray⟩ (by rw [sizeOf, bytesOf]; omega) 32 W
        rwa [bytesOf] at this
      have HSN := Lib.hid (readsR_snoc HM.out hp)
      have HST := Lib.hid (readsR_stop hp)
      have HMK : Hid (M.length = k) := Lib.hid (by omega)
      generalize hP : (⟨p.toArray⟩ : ByteArray) = P at *
      by_cases h2 : (spl 32 p).length = 2
      · obtain ⟨x, y, he⟩ := two_of h2
        have hx4 := spl_piece 32 p x (by rw [he]; simp)
        have hy4 := spl_piece 32 p y (by rw [he]; simp)
        have SQ : ∀ W, Calls Tryz.prog 52 #[.string ⟨y.toArray⟩, .int .u8 47] W fun e w' => ∃ v, e = .returned v ∧ OwnT w' W.heap.size v (spl 47 y) ∧ Below W.heap.size W w' := fun W => by
          have := split_ref6 ⟨y.toArray⟩ (by rw [sizeOf, bytesOf]; omega) 47 W
          rwa [bytesOf] at this
        have HXY := Lib.hid he
        rw [he] at SP
        obtain ⟨X, hX⟩ : ∃ X : ByteArray, X = ⟨x.toArray⟩ := ⟨_, rfl⟩
        obtain ⟨Y, hY⟩ : ∃ Y : ByteArray, Y = ⟨y.toArray⟩ := ⟨_, rfl⟩
        have HX : Hid (X.data.toList = x) := Lib.hid (by rw [hX, bytesOf])
        have HY : Hid (Y.data.toList = y) := Lib.hid (by rw [hY, bytesOf])
        have HXe := Lib.hid hX
        have HYe := Lib.hid hY
        rw [← hY] at SQ
        clear hX hY hP he h2 hp
        go_wp2_with (go_at_call 52; (with_reducible refine (SP _).mono ?_); rintro e w2 ⟨v2, rfl, ho2, hb2⟩; obtain ⟨cw, bw, ow, rfl, hbw2, d0, d1⟩ := ho2.holds.two; rw [← HXe.out] at d0; rw [← HYe.out] at d1; have HB2 := Lib.hid (HB.out.trans (hb2.mono hsz)); have hz2 := HB2.out.size; have HO3 := Lib.hid (OwnV.on HO2.out hb2); clear hb2 ho2 SP)
        have hal := fun o' => (Below.refl w2.heap.size w2).alloc (Nat.le_refl _) o'
        have a0 := ((hal (.cells #[.string ⟨#[]⟩, .string ⟨#[]⟩, .bool false] 53)).cell (p := ⟨bw, ow, none⟩) hbw2).trans d0
        have a1 := ((hal (.cells #[.string ⟨#[]⟩, .string ⟨#[]⟩, .bool false] 53)).cell (p := ⟨bw, ow + 1, none⟩) hbw2).trans d1
        have g1 := ((hal (.cells #[.string X, .string Y, .bool false] 53)).cell (p := ⟨bw, ow + 1, none⟩) hbw2).trans d1
        have HAL := Lib.hid (hal (.cells #[.string X, .string Y, .bool false] 53)).drew
        have HBX := Lib.hid (Box3.on (Box3.new w2 (.string X) (.string Y) (.bool false) 53) (Below.refl _ _).drew)
        have HB3 := Lib.hid (HB2.out.trans (HAL.out.mono hz2))
        have HO4 := Lib.hid (OwnV.on HO3.out HAL.out)
        have HNA := Lib.hid (OwnV.apart HO3.out (Nat.le_refl _))
        clear hal
        go_region
        clear d0 d1 a0 a1
        have hz4 : w1.heap.size ≤ w2.heap.size := hz2
        by_cases hq : ∃ q, spl 47 y = [q, noaw.tail]
        · obtain ⟨q, hq⟩ := hq
          have HRD : Hid (readsR (ls.take (k + 1)) = some (M ++ [(x, q, true)])) := Lib.hid (by rw [HSN.out, readR_yes HXY.out hq]; rfl)
          rw [hq] at SQ
          obtain ⟨Q, hQ⟩ : ∃ Q : ByteArray, Q = ⟨q.toArray⟩ := ⟨_, rfl⟩
          have HQ : Hid (Q.data.toList = q) := Lib.hid (by rw [hQ, bytesOf])
          have HQe := Lib.hid hQ
          clear hq hQ
          have hlit := eqTL ⟨#[110, 111, 97, 119, 97, 105, 116]⟩ [110, 111, 97, 119, 97, 105, 116]
          rw [decide_eq_true rfl] at hlit
          go_wp2_with (first
            | (go_at_call 52; (with_reducible refine (SQ _).mono ?_); rintro e w4 ⟨v4, rfl, ho4, hb4⟩; obtain ⟨cq, bq, oq, rfl, hbq, e0, e1⟩ := ho4.holds.two; rw [← HQe.out] at e0; have e1 : w4.cell? ⟨bq, oq + 1, none⟩ = some (.string ⟨#[110, 111, 97, 119, 97, 105, 116]⟩) := e1; have HB4 := Lib.hid (HB3.out.trans (hb4.mono HB3.out.size)); have HX4 := Lib.hid (HBX.out.on hb4); have HO4b := Lib.hid (OwnV.on HO4.out hb4); obtain ⟨r0, r1, r2, rf⟩ := HX4.out; have rf1 := rf 1; have rf2 := rf 2; have HX5 := Lib.hid ((HX4.out.set1 (.string Q)).set2 (.bool true)); obtain ⟨k0, k1, k2, -⟩ := HX5.out; have HV := Lib.hid (by have h := boxV3 ((w4.setCell ⟨w2.heap.size, 1, none⟩ (.string Q)).setCell ⟨w2.heap.size, 2, none⟩ (.bool true)) (.string X) (.string Q) (.bool true) 53; rw [World.size_setCell, World.size_setCell] at h; exact h); have HO5 := Lib.hid ((HO4b.out.set HNA.out 1 (.string Q)).set HNA.out 2 (.bool true)); have HB5 := Lib.hid ((HB4.out.setCell (p := ⟨w2.heap.size, 1, none⟩) hz4 (.string Q)).setCell (p := ⟨w2.heap.size, 2, none⟩) hz4 (.bool true)); have hz6 : w1.heap.size ≤ w4.heap.size := HB4.out.size; clear hb4 ho4 SQ rf)
            | (at_builtin; refine wpList_append_own _ rfl _ _ 22 rfl w1.heap.size 53 i0 _ 3 40 Tryz.underlying22 hi hz0 hz1 hz2' rfl (by decide) _ _ _ rfl (World.ownsRow.alloc HO5.out.2 _) ⟨w4.heap.size, 0, none⟩ 1 1 [.string X, .string Q, .bool true] rfl rfl (by intro j u hj; match j, hj with | 0, hj => simp at hj; subst hj; exact HV.out.1 | 1, hj => simp at hj; subst hj; rw [Addr.add_lit]; exact HV.out.2.1 | 2, hj => simp at hj; subst hj; rw [Addr.add_lit]; exact HV.out.2.2) (by intro u hu; simp at hu; rcases hu with rfl | rfl | rfl <;> rfl) (by rw [List.length_map, HMK.out]; unfold maxLen; omega) (by rw [List.length_map, HMK.out]; omega) (by simp; omega) ?_))
          intro v' w6 hown' hgrow _
          have HO6 : Hid (∃ M, readsR (ls.take (k + 1)) = some M ∧ OwnI w6 w1.heap.size v' M) := Lib.hid ⟨_, HRD.out, OwnI.app (x := (x, q, true)) HX.out HQ.out (by simpa using hown')⟩
          have HB6 : Hid (Below w1.heap.size w1 w6) := Lib.hid (OwnV.below HB5.out HO5.out hgrow (Nat.le_refl _) HB5.out.size)
          clear hown' hgrow
          go_wp2
          go_roundw
          case rel => exact ⟨k + 1, by omega, by go_num, HO6, HB6⟩
          case measure => simp [intOf]; omega
        · have HRD : Hid (readsR (ls.take (k + 1)) = some (M ++ [(x, y, false)])) := Lib.hid (by rw [HSN.out, readR_no HXY.out (fun q g => hq ⟨q, g⟩)]; rfl)
          by_cases hm : (spl 47 y).length = 2
          · obtain ⟨q, r, hqr⟩ := two_of hm
            have hr : r ≠ [110, 111, 97, 119, 97, 105, 116] := fun g => hq ⟨q, by rw [hqr, g]; rfl⟩
            rw [hqr] at SQ
            obtain ⟨R, hR⟩ : ∃ R : ByteArray, R = ⟨r.toArray⟩ := ⟨_, rfl⟩
            have HRe := Lib.hid hR
            have hlit := eqTL R [110, 111, 97, 119, 97, 105, 116]
            rw [hR, bytesOf, decide_eq_false hr, ← hR] at hlit
            clear hq hm hqr hr hR
            go_wp2_with (first
              | (go_at_call 52; (with_reducible refine (SQ _).mono ?_); rintro e w4 ⟨v4, rfl, ho4, hb4⟩; obtain ⟨cq, bq, oq, rfl, hbq, e0, e1⟩ := ho4.holds.two; rw [← HRe.out] at e1; have HB4 := Lib.hid (HB3.out.trans (hb4.mono HB3.out.size)); have HX4 := Lib.hid (HBX.out.on hb4); have HO5 := Lib.hid (OwnV.on HO4.out hb4); obtain ⟨k0, k1, k2, -⟩ := HX4.out; have HB5 := HB4; have hz6 : w1.heap.size ≤ w4.heap.size := HB4.out.size; clear hb4 ho4 SQ)
              | (at_builtin; refine wpList_append_own _ rfl _ _ 22 rfl w1.heap.size 53 i0 _ 3 40 Tryz.underlying22 hi hz0 hz1 hz2' rfl (by decide) _ _ _ rfl (World.ownsRow.alloc HO5.out.2 _) ⟨w4.heap.size, 0, none⟩ 1 1 [.string X, .string Y, .bool false] rfl rfl (by intro j u hj; match j, hj with | 0, hj => simp at hj; subst hj; simp [Addr.add] | 1, hj => simp at hj; subst hj; simp [Addr.add] | 2, hj => simp at hj; subst hj; simp [Addr.add]) (by intro u hu; simp at hu; rcases hu with rfl | rfl | rfl <;> rfl) (by rw [List.length_map, HMK.out]; unfold maxLen; omega) (by rw [List.length_map, HMK.out]; omega) (by simp; omega) ?_))
            intro v' w6 hown' hgrow _
            have HO6 : Hid (∃ M, readsR (ls.take (k + 1)) = some M ∧ OwnI w6 w1.heap.size v' M) := Lib.hid ⟨_, HRD.out, OwnI.app (x := (x, y, false)) HX.out HY.out (by simpa using hown')⟩
            have HB6 : Hid (Below w1.heap.size w1 w6) := Lib.hid (OwnV.below HB5.out HO5.out hgrow (Nat.le_refl _) HB5.out.size)
            clear hown' hgrow
            go_wp2
            go_roundw
            case rel => exact ⟨k + 1, by omega, by go_num, HO6, HB6⟩
            case measure => simp [intOf]; omega
          · obtain ⟨m, hm2⟩ : ∃ m, (spl 47 y).length = m := ⟨_, rfl⟩
            have HML := Lib.hid hm2
            have h2i : ((m : Int) == 2) = false := by rw [beq_eq_false_iff_ne]; omega
            clear hq hm hm2
            go_wp2_with (first
              | (go_at_call 52; (with_reducible refine (SQ _).mono ?_); rintro e w4 ⟨v4, rfl, ho4, hb4⟩; obtain ⟨aq, cq, rfl⟩ := ho4.holds.len; rw [HML.out]; have HB4 := Lib.hid (HB3.out.trans (hb4.mono HB3.out.size)); have HX4 := Lib.hid (HBX.out.on hb4); have HO5 := Lib.hid (OwnV.on HO4.out hb4); obtain ⟨k0, k1, k2, -⟩ := HX4.out; have HB5 := HB4; have hz6 : w1.heap.size ≤ w4.heap.size := HB4.out.size; clear hb4 ho4 SQ)
              | (at_builtin; refine wpList_append_own _ rfl _ _ 22 rfl w1.heap.size 53 i0 _ 3 40 Tryz.underlying22 hi hz0 hz1 hz2' rfl (by decide) _ _ _ rfl (World.ownsRow.alloc HO5.out.2 _) ⟨w4.heap.size, 0, none⟩ 1 1 [.string X, .string Y, .bool false] rfl rfl (by intro j u hj; match j, hj with | 0, hj => simp at hj; subst hj; simp [Addr.add] | 1, hj => simp at hj; subst hj; simp [Addr.add] | 2, hj => simp at hj; subst hj; simp [Addr.add]) (by intro u hu; simp at hu; rcases hu with rfl | rfl | rfl <;> rfl) (by rw [List.length_map, HMK.out]; unfold maxLen; omega) (by rw [List.length_map, HMK.out]; omega) (by simp; omega) ?_))
            intro v' w6 hown' hgrow _
            have HO6 : Hid (∃ M, readsR (ls.take (k + 1)) = some M ∧ OwnI w6 w1.heap.size v' M) := Lib.hid ⟨_, HRD.out, OwnI.app (x := (x, y, false)) HX.out HY.out (by simpa using hown')⟩
            have HB6 : Hid (Below w1.heap.size w1 w6) := Lib.hid (OwnV.below HB5.out HO5.out hgrow (Nat.le_refl _) HB5.out.size)
            clear hown' hgrow
            go_wp2
            go_roundw
            case rel => exact ⟨k + 1, by omega, by go_num, HO6, HB6⟩
            case measure => simp [intOf]; omega
      · have HF : Hid (parseI s.data.toList = none) := Lib.hid (HSTOP.out (HST.out (readR_bad h2)))
        obtain ⟨m, hm⟩ : ∃ m, (spl 32 p).length = m := ⟨_, rfl⟩
        have HML := Lib.hid hm
        rw [hm] at h2
        have h2i : ((m : Int) == 2) = false := by rw [beq_eq_false_iff_ne]; omega
        have h2n : ((m : Int) != 2) = true := by rw [bne, h2i]; rfl
        clear hP hp hm h2
        go_wp2_with (go_at_call 52; (with_reducible refine (SP _).mono ?_); rintro e w2 ⟨v2, rfl, ho2, hb2⟩; obtain ⟨aw, cw, rfl⟩ := ho2.holds.len; rw [HML.out]; have HB2 := Lib.hid (HB1.out.trans ((HB.out.trans (hb2.mono hsz)).mono hsz1)); clear hb2 ho2 SP)
        go_ret2
        exact HBAD.out _ HF.out HB2.out
    · obtain rfl : k = n := by omega
      have HR : Hid (readsR ls = some M) := Lib.hid (by have := HM.out; rwa [List.take_of_length_le (by rw [HN.out]; omega)] at this)
      have HBW := Lib.hid (HB1.out.trans (HB.out.mono hsz1))
      have HH := Lib.hid HO2.out.holds
      have PR := printI_ref _ M (by rw [readsR_len HR.out, HN.out]; omega) (readsR_small HR.out HP4.out) wr HH.out
      unfold PrPostI at PR
      obtain ⟨T, hT⟩ : ∃ T, T = bsT (printI M).1 := ⟨_, rfl⟩
      obtain ⟨z, hz⟩ : ∃ z, z = (printI M).2 := ⟨_, rfl⟩
      rw [← hT, ← hz] at PR
      have HTZ : Hid (printI M = (T.data.toList, z)) := Lib.hid (by rw [hT, bytesOf, hz])
      have hq := eqT T s
      have HPS := Lib.hid (HBB.out M HR.out)
      clear hT hz hlt
      cases B with
      | false =>
        have HX : Hid (parseI s.data.toList = none) := Lib.hid (by rw [HPS.out, if_neg (by simp)])
        clear HPS HBB hq
        go_wp2_with (go_at_call 10; (with_reducible refine PR.mono ?_); rintro e w4 ⟨rfl, hb⟩; have HB4 := Lib.hid (HBW.out.trans (hb.mono HBW.out.size)); clear hb PR)
        go_ret2
        exact HBAD.out _ HX.out HB4.out
      | true =>
        by_cases hz0 : z = 0
        · subst hz0
          by_cases hts : T.data.toList = s.data.toList
          · rw [decide_eq_true hts] at hq
            have HX : Hid (parseI s.data.toList = some M) := Lib.hid (by rw [HPS.out, if_pos ⟨rfl, by rw [HTZ.out, hts]⟩])
            clear hts HPS HBB
            go_wp2_with (go_at_call 10; (with_reducible refine PR.mono ?_); rintro e w4 ⟨rfl, hb⟩; have HB4 := Lib.hid (HBW.out.trans (hb.mono HBW.out.size)); have HH4 := Lib.hid (HoldV.on HH.out hb); clear hb PR)
            go_ret2
            exact HOK.out _ _ _ HX.out HH4.out HB4.out
          · rw [decide_eq_false hts] at hq
            have HX : Hid (parseI s.data.toList = none) := Lib.hid (by rw [HPS.out, if_neg (by rw [HTZ.out]; exact fun g => hts (Prod.mk.inj g.2).1)])
            clear hts HPS HBB
            go_wp2_with (go_at_call 10; (with_reducible refine PR.mono ?_); rintro e w4 ⟨rfl, hb⟩; have HB4 := Lib.hid (HBW.out.trans (hb.mono HBW.out.size)); clear hb PR)
            go_ret2
            exact HBAD.out _ HX.out HB4.out
        · have hzb : (z == 0) = false := by rw [beq_eq_false_iff_ne]; exact hz0
          have hzn : (z != 0) = true := by rw [bne, hzb]; rfl
          have HX : Hid (parseI s.data.toList = none) := Lib.hid (by rw [HPS.out, if_neg (by rw [HTZ.out]; exact fun g => hz0 (Prod.mk.inj g.2).2)])
          clear hz0 hq HPS HBB
          go_wp2_with (go_at_call 10; (with_reducible refine PR.mono ?_); rintro e w4 ⟨rfl, hb⟩; have HB4 := Lib.hid (HBW.out.trans (hb.mono HBW.out.size)); clear hb PR)
          go_ret2
          exact HBAD.out _ HX.out HB4.out
end Go.Proofs.YtceohgjfjndcmaaGreatDoor
namespace Go.Proofs.YtceohgjfjndcmaaGreatDoor
open Go.RowKit
def RPaPostF (s : Bs) (w : World) (e : Ending) (w' : World) : Prop := ∃ v b, e = .returned (.tuple #[v, .bool b]) ∧ (∀ l, parseF s = some l → b = true ∧ ∃ L : List Fp, L.map (·.1) = l ∧ HoldF w' v L) ∧ (parseF s = none → b = false ∧ v = .slice none 0 0) ∧ Below w.heap.size w w'
theorem readFR_len (s : Bs) : (readFR s).1.length ≤ s.length ∧ (readFR s).2.length ≤ s.length + 1 ∧ ∀ p ∈ (readFR s).2, p.length ≤ s.length := by
  have h1 := spl_piece 32 s
  have h2 := spl_len 32 s
  unfold readFR
  refine ⟨?_, ?_, fun p hp => h1 p (List.mem_of_mem_tail (List.mem_filter.1 hp).1)⟩
  · cases h : spl 32 s with
    | nil => simp
    | cons a l => rw [h] at h1; exact h1 a (by simp)
  · refine Nat.le_trans (List.length_filter_le _ _) ?_
    rw [List.length_tail]; omega
theorem readFR_small {ls : List Bs} {L : List Fp} (hL : L.map (·.1) = ls.map readFR) (h : ∀ p ∈ ls, p.length ≤ 4000) : SmallF L := fun x hx => by
  have : x.1 ∈ ls.map readFR := by rw [← hL]; exact List.mem_map.2 ⟨x, hx, rfl⟩
  obtain ⟨p, hp, he⟩ := List.mem_map.1 this
  have h1 := readFR_len p
  have h2 := h p hp
  rw [← he]
  exact ⟨by omega, by omega, fun q hq => Nat.le_trans (h1.2.2 q hq) h2⟩
theorem tail_snoc {l : List Bs} {t : Nat} {f : Bs} (h1 : 1 ≤ t) (h : l[t]? = some f) : (l.take (t + 1)).tail = (l.take t).tail ++ [f] := by
  rw [List.take_add_one, h]
  have : l.take t ≠ [] := fun e => by
    have := congrArg List.length e
    rw [List.length_take] at this
    have h3 := (List.getElem?_eq_some_iff.1 h).1
    rw [List.length_nil] at this; omega
  rw [List.tail_append_of_ne_nil this]; rfl
theorem box_far {V V' : World} {row : Option Nat} {b : Nat} {x u : Value} (hb : Box2 V b x u) (hg : V.grownBy V' row) (hne : row ≠ some b) : Box2 V' b x u := by
  have hlt := World.block_lt_of_cell? V _ hb.c0
  exact ⟨(hg.cell_far ⟨b, 0, none⟩ hlt (fun e => hne e.symm)).trans hb.c0, (hg.cell_far ⟨b, 1, none⟩ hlt (fun e => hne e.symm)).trans hb.c1, fun i => (hg.frozen_far ⟨b, i, none⟩ hlt (fun e => hne e.symm)).trans (hb.f i)⟩
theorem Box2.set1 {w : World} {b : Nat} {x y : Value} (h : Box2 w b x y) (u : Value) : Box2 (w.setCell ⟨b, 1, none⟩ u) b x u :=
  ⟨(World.cell?_setCell_other _ _ _ _ (fun e => absurd (congrArg Addr.off e) (by simp))).trans h.c0, World.cell?_setCell_same _ _ _ h.c1, fun i => by rw [World.frozen?_setCell]; exact h.f i⟩
theorem news1 {w : World} {b : Nat} (X : ByteArray) (t : TypeId) (hb : b = w.heap.size) : ∀ j u, [Value.string X][j]? = some u → (w.alloc (.cells #[.string X] t)).cell? ((⟨b, 0, none⟩ : Addr).add j) = some u := by
  intro j u hj
  subst hb
  match j, hj with
  | 0, hj => simp at hj; subst hj; rw [Addr.add_lit]; exact boxV1 w _ t
theorem linesO_is (s : Bs) : linesO s = if (spl 10 s).getLast? = some [] then some (spl 10 s).dropLast else none := rfl
open Classical in
set_option maxRecDepth 100000 in
set_option maxHeartbeats 16000000 in
theorem parseFr_ref (s : ByteArray) (hs : s.size ≤ 90000) (hp : ∀ p ∈ spl 10 s.data.toList, p.length ≤ 4000) (w : World) : Calls Tryz.prog 23 #[.string s] w (RPaPostF s.data.toList w) := by
  have L := fun w => lines_ref s (by omega) w
  unfold LinesPost at L
  have HBAD : Hid (∀ w', parseF s.data.toList = none → Below w.heap.size w w' → RPaPostF s.data.toList w (.returned (.tuple #[.slice none 0 0, .bool false])) w') := Lib.hid (fun w' h hb => ⟨_, false, rfl, fun l hl => (by rw [h] at hl; cases hl), fun _ => ⟨rfl, rfl⟩, hb⟩)
  have HOK : Hid (∀ (L : List Fp) v w', parseF s.data.toList = some (L.map (·.1)) → HoldF w' v L → Below w.heap.size w w' → RPaPostF s.data.toList w (.returned (.tuple #[v, .bool true])) w') := Lib.hid (fun L v w' h h1 hb => ⟨v, true, rfl, fun l' hl => (by rw [h] at hl; cases hl; exact ⟨rfl, L, rfl, h1⟩), fun hn => (by rw [h] at hn; cases hn), hb⟩)
  have HREF := Lib.hid (parseF_ref s.data.toList)
  obtain ⟨ls, hls⟩ : ∃ ls, (spl 10 s.data.toList).dropLast = ls := ⟨_, rfl⟩
  rw [hls] at HREF
  simp only [hls] at L
  have hl1 : ls.length ≤ s.size := by
    have := spl_len 10 s.data.toList
    rw [← hls, List.length_dropLast, sizeOf]; omega
  have hl2 : ∀ p ∈ ls, p.length ≤ 4000 := fun p h => hp p (by rw [← hls] at h; exact (List.dropLast_sublist _).subset h)
  have HP4 := Lib.hid hl2
  obtain ⟨i0, hi, hz0, hz1, hz2'⟩ := info_parts infoF
  obtain ⟨t0, ti, tz0, tz1, tz2⟩ := info_parts infoT
  obtain ⟨B, hB⟩ : ∃ B : Bool, decide ((spl 10 s.data.toList).getLast? = some []) = B := ⟨_, rfl⟩
  simp only [hB] at L
  have HBB : Hid (parseF s.data.toList = if B = true ∧ printFr (ls.map readFR) = (s.data.toList, 0) then some (ls.map readFR) else none) := Lib.hid (by
    rw [HREF.out, ← hB]; simp)
  obtain ⟨n, hN⟩ : ∃ n, ls.length = n := ⟨_, rfl⟩
  rw [hN] at hl1
  have HN := Lib.hid hN
  clear hp hl2 hls hB HREF
  go_enter Tryz.func23, Tryz.ntmps23
  go_wp2_with (go_at_call 51; refine (L _).mono ?_; rintro e w1 ⟨v, rfl, hh, hb⟩; obtain ⟨a, c, b, o, rfl, hc, ha, hcell⟩ := hh; rw [HN.out] at hc ha ⊢; have HC := Lib.hid hcell; have HB1 := Lib.hid hb; clear hcell hb L)
  have hsz1 := HB1.out.size
  clear hN
  go_loopw [4, 7] (fun u i wr => ∃ k : Nat, k ≤ n ∧ i = .int .i64 k ∧ Hid (OwnG wr w1.heap.size u ((ls.take k).map readFR)) ∧ Hid (Below w1.heap.size w1 wr)) (fun _ i _ => n - (intOf i).toNat)
  case atStart => exact ⟨0, by omega, rfl, Lib.hid (OwnG.nil _ _), Lib.hid (Below.refl _ _)⟩
  case round =>
    obtain ⟨k, hk, rfl, HO, HB⟩ := hrel
    have hsz := HB.out.size
    by_cases hlt : k < n
    · obtain ⟨rfl, hbw⟩ := ha (by omega)
      obtain ⟨p, hp⟩ : ∃ p, ls[k]? = some p := ⟨_, List.getElem?_eq_getElem (by rw [HN.out]; exact hlt)⟩
      have c0 := HC.out k p hp
      rw [← HB.out.cell (p := ⟨b, o + k, none⟩) hbw] at c0
      have hp4 := HP4.out p (List.mem_of_getElem? hp)
      have SP : ∀ W, Calls Tryz.prog 52 #[.string ⟨p.toArray⟩, .int .u8 32] W fun e w' => ∃ v, e = .returned v ∧ OwnT w' W.heap.size v (spl 32 p) ∧ Below W.heap.size W w' := fun W => by
        have := split_ref6 ⟨p.toArray⟩ (by rw [sizeOf, bytesOf]; omega) 32 W
        rwa [bytesOf] at this
      have HSN := Lib.hid (map_snoc readFR hp)
      have hlen : ((ls.take k).map readFR).length = k := by rw [List.length_map, List.length_take, HN.out]; omega
      have HLEN := Lib.hid hlen
      obtain ⟨ps, hps⟩ : ∃ ps, spl 32 p = ps := ⟨_, rfl⟩
      have hpl : ps.length ≤ 4001 := by have := spl_len 32 p; rw [hps] at this; omega
      obtain ⟨x, hx⟩ : ∃ x, ps[0]? = some x := by
        have := List.length_pos_iff.2 (spl_ne 32 p)
        rw [hps] at this
        exact ⟨_, List.getElem?_eq_getElem this⟩
      have HRD : Hid (readFR p = (x, ps.tail.filter fun q => decide (q ≠ [45]))) := Lib.hid (by
        unfold readFR
        rw [hps]
        cases ps with
        | nil => simp at hx
        | cons a l => simp at hx; rw [hx]; rfl)
      rw [hps] at SP
      generalize (⟨p.toArray⟩ : ByteArray) = P at *
      obtain ⟨m, hM⟩ : ∃ m, ps.length = m := ⟨_, rfl⟩
      have hm1 : 1 ≤ m := by have := (List.getElem?_eq_some_iff.1 hx).1; omega
      rw [hM] at hpl
      have HM := Lib.hid hM
      obtain ⟨X, hX⟩ : ∃ X : ByteArray, X = ⟨x.toArray⟩ := ⟨_, rfl⟩
      have HX : Hid (X.data.toList = x) := Lib.hid (by rw [hX, bytesOf])
      have HXe := Lib.hid hX
      have HX0 := Lib.hid hx
      generalize hPP : (fun q : Bs => decide (q ≠ [45])) = PP at *
      have HPP : Hid (∀ q, PP q = decide (q ≠ [45])) := Lib.hid (fun q => by rw [← hPP])
      clear hX hp hps hM hx hPP
      go_wp2_with (go_at_call 52; (with_reducible refine (SP _).mono ?_); rintro e w2 ⟨v2, rfl, ho2, hb2⟩; obtain ⟨aw, cw, bw, ow, rfl, hcw, haw, hcellw⟩ := ho2.holds; rw [HM.out] at hcw haw ⊢; obtain ⟨rfl, hbw2⟩ := haw (by omega); have d0 := hcellw 0 _ HX0.out; rw [← HXe.out, Nat.add_zero] at d0; have HCW := Lib.hid hcellw; have HB2 := Lib.hid (HB.out.trans (hb2.mono hsz)); have hz2 := HB2.out.size; have HO3 := Lib.hid (OwnG.on HO.out hb2); clear hb2 ho2 SP hcellw haw)
      have HAL := Lib.hid ((Below.refl w2.heap.size w2).alloc (Nat.le_refl _) (.cells #[.string X, .slice none 0 0] 74))
      have HBX := Lib.hid (Box2.new w2 (.string X) (.slice none 0 0) 74)
      have hza : (w2.alloc (.cells #[.string X, .slice none 0 0] 74)).heap.size = w2.heap.size + 1 := World.size_alloc _ _
      have HZA := Lib.hid hza
      clear hza d0
      obtain ⟨wo, rfl⟩ : ∃ wo : World, wo = wr := ⟨_, rfl⟩
      go_loopw [10] (fun i V => ∃ (t : Nat) (u : Value), 1 ≤ t ∧ t ≤ m ∧ i = .int .i64 t ∧ Hid (Box2 V w2.heap.size (.string X) u) ∧ Hid (OwnT V (w2.heap.size + 1) u ((ps.take t).tail.filter PP)) ∧ Hid (Below w2.heap.size w2 V) ∧ w2.heap.size + 1 ≤ V.heap.size) (fun i _ => m - (intOf i).toNat)
      case atStart => exact ⟨1, .slice none 0 0, by omega, by omega, rfl, HBX, Lib.hid (by cases ps <;> exact OwnT.nil _ _), HAL, by rw [HZA.out]; omega⟩
      case round =>
        obtain ⟨t, u, ht1, ht, rfl, HBV, HOV, HBB2, hzv⟩ := hrel
        obtain ⟨V, rfl⟩ : ∃ V : World, V = wr := ⟨_, rfl⟩
        by_cases htm : t < m
        · obtain ⟨f, hf⟩ : ∃ f, ps[t]? = some f := ⟨_, List.getElem?_eq_getElem (by rw [HM.out]; exact htm)⟩
          have g0 := (HBB2.out.cell (p := ⟨bw, ow + t, none⟩) hbw2).trans (HCW.out t f hf)
          have HTS := Lib.hid (tail_snoc ht1 hf)
          have hfl : ((ps.take t).tail.filter PP).length ≤ t := by
            refine Nat.le_trans (List.length_filter_le _ _) ?_
            rw [List.length_tail, List.length_take]; omega
          have HFL := Lib.hid hfl
          have hq := eqTL ⟨f.toArray⟩ [45]
          rw [bytesOf] at hq
          obtain ⟨Y, hY⟩ : ∃ Y : ByteArray, Y = ⟨f.toArray⟩ := ⟨_, rfl⟩
          rw [← hY] at g0 hq
          have HY : Hid (Y.data.toList = f) := Lib.hid (by rw [hY, bytesOf])
          clear hY hf hfl
          by_cases h45 : f = [45]
          · rw [decide_eq_true h45] at hq
            have HOV2 : Hid (OwnT V (w2.heap.size + 1) u ((ps.take (t + 1)).tail.filter PP)) := Lib.hid (by rw [HTS.out, List.filter_append]; simp [HPP.out, h45]; exact HOV.out)
            clear h45
            go_wp2
            go_roundw
            case rel => exact ⟨t + 1, u, by omega, by omega, by go_num, HBV, HOV2, HBB2, hzv⟩
            case measure => simp [intOf]; omega
          · rw [decide_eq_false h45] at hq
            have HFE : Hid ((ps.take (t + 1)).tail.filter PP = (ps.take t).tail.filter PP ++ [f]) := Lib.hid (by rw [HTS.out, List.filter_append]; simp [HPP.out, h45])
            clear h45
            obtain ⟨ua, un, uc, rfl⟩ := OwnT.form HOV.out
            obtain ⟨b0, b1, bf⟩ := HBV.out
            have y1 := (((Below.refl V.heap.size V).alloc (Nat.le_refl _) (.cells #[.string Y] 9)).cell (p := ⟨w2.heap.size, 1, none⟩) (by show w2.heap.size < _; omega)).trans b1
            have HNE := Lib.hid (OwnT.below HOV.out (Nat.lt_succ_self w2.heap.size))
            have j0 : (0 : Int) ≤ (t : Int) := by omega
            have j1 : (t : Int) < (m : Int) := by omega
            clear bf
            have HOA : Hid (OwnT (V.alloc (.cells #[.string Y] 9)).drew (w2.heap.size + 1) (.slice ua un uc) ((ps.take t).tail.filter PP)) := Lib.hid (OwnT.on HOV.out ((Below.refl _ _).alloc (Nat.le_refl _) _).drew)
            have HBA : Hid (Box2 (V.alloc (.cells #[.string Y] 9)).drew w2.heap.size (.string X) (.slice ua un uc)) := Lib.hid (Box2.on HBV.out ((Below.refl _ _).alloc (Nat.le_refl _) _).drew)
            have HNW : Hid (∀ j u, [Value.string Y][j]? = some u → (V.alloc (.cells #[.string Y] 9)).drew.cell? ((⟨V.heap.size, 0, none⟩ : Addr).add j) = some u) := Lib.hid (fun j u hj => news1 (w := V) Y 9 rfl j u hj)
            have HBF : Hid (Below w2.heap.size w2 (V.alloc (.cells #[.string Y] 9)).drew) := Lib.hid (HBB2.out.alloc HBB2.out.size _).drew
            go_wp2
            go_region_law (refine step_append_lies _ rfl _ _ 56 rfl (w2.heap.size + 1) 9 t0 (.string ⟨#[]⟩) 1 16 Tryz.underlying56 ti tz0 tz1 tz2 rfl (by decide) _ _ _ rfl HOA.out ⟨V.heap.size, 0, none⟩ 1 1 [.string Y] rfl rfl HNW.out (by simp [Value.oneCell']) (by decide) (by have := HFL.out; unfold maxLen; omega) (by have := HFL.out; omega) (by simp; omega) _ rfl ?_; intro g cap w6 hown' hgrow h4 h5; have HX6 := Lib.hid (box_far HBA.out hgrow HNE.out); obtain ⟨k0, k1, kf⟩ := HX6.out; have kf1 := kf 1; have HO6 := Lib.hid (OwnT.app HY.out hown'); have HG6 := Lib.hid hgrow; clear kf hown' hgrow h4 h5)
            all_goals
              have HO7 : Hid (OwnT w6 (w2.heap.size + 1) (.slice (some ⟨g, 0, none⟩) (((ps.take t).tail.filter PP).length + 1) cap) ((ps.take (t + 1)).tail.filter PP)) := Lib.hid (by rw [HFE.out]; exact HO6.out)
              have HB6 : Hid (Below w2.heap.size w2 w6) := Lib.hid (HBF.out.grown HG6.out HBF.out.size (fun k hk => by have := (World.ownsRow.lt HOA.out k hk).1; omega))
              have hz6 : w2.heap.size + 1 ≤ w6.heap.size := by have h9 := HG6.out.size; have h8 : (V.alloc (.cells #[.string Y] 9)).drew.heap.size = V.heap.size + 1 := World.size_alloc _ _; omega
              clear HG6 HOA HBA HNW HBF HNE
              go_wp2
              go_roundw
              case rel => exact ⟨t + 1, _, by omega, by omega, by go_num, Lib.hid (HX6.out.set1 _), Lib.hid (OwnT.set HO7.out (OwnT.below HO7.out (Nat.lt_succ_self _)) 1 _), Lib.hid (HB6.out.setCell (p := ⟨w2.heap.size, 1, none⟩) (Nat.le_refl _) _), by rw [World.size_setCell]; exact hz6⟩
              case measure => simp [intOf]; omega
        · obtain rfl : t = m := by omega
          have HPT : Hid ((ps.take t).tail.filter PP = ps.tail.filter PP) := Lib.hid (by rw [List.take_of_length_le (by rw [HM.out]; omega)])
          obtain ⟨ua, un, uc, rfl⟩ := OwnT.form HOV.out
          obtain ⟨b0, b1, -⟩ := HBV.out
          have HU : Hid (OwnT V 0 (.slice ua un uc) (readFR p).2) := Lib.hid (by rw [HRD.out, ← HPT.out]; exact HOV.out.mono (Nat.zero_le _))
          have HXX : Hid (X.data.toList = (readFR p).1) := Lib.hid (by rw [HRD.out, HX.out])
          obtain ⟨L, hL1, hL2, hL3⟩ := HO3.out.on HBB2.out
          have HL1 := Lib.hid hL1
          have HL2 := Lib.hid hL2
          have HO4 := Lib.hid hL3
          have HLL : Hid (L.length = k) := Lib.hid (by rw [← HLEN.out, ← hL1, List.length_map])
          have HBV2 := Lib.hid (HB2.out.trans (HBB2.out.mono hz2))
          have hzv2 := HBV2.out.size
          clear hL1 hL2 hL3 htm
          go_wp2_with (at_builtin; refine wpList_append_own _ rfl _ _ 35 rfl w1.heap.size 74 i0 _ 2 40 Tryz.underlying35 hi hz0 hz1 hz2' rfl (by decide) _ _ _ rfl (World.ownsRow.alloc HO4.out.2 _) ⟨V.heap.size, 0, none⟩ 1 1 [.string X, .slice ua un uc] rfl rfl (by intro j u hj; match j, hj with | 0, hj => simp at hj; subst hj; simp [Addr.add] | 1, hj => simp at hj; subst hj; simp [Addr.add]) (by intro u hu; simp at hu; rcases hu with rfl | rfl <;> rfl) (by rw [List.length_map, HLL.out]; unfold maxLen; omega) (by rw [List.length_map, HLL.out]; omega) (by simp; omega) ?_)
          intro v' w6 hown' hgrow _
          have HO6 : Hid (OwnG w6 w1.heap.size v' ((ls.take (k + 1)).map readFR)) := Lib.hid (by rw [HSN.out, ← HL1.out]; exact OwnG.app HL2.out HO4.out HU.out HXX.out (by simpa using hown') hgrow)
          have HB6 : Hid (Below w1.heap.size w1 w6) := Lib.hid (OwnV.below HBV2.out HO4.out hgrow (Nat.le_refl _) hzv2)
          clear hown' hgrow
          go_wp2
          go_roundw
          case rel => exact ⟨k + 1, by omega, by go_num, HO6, HB6⟩
          case measure => simp [intOf]; omega
    · obtain rfl : k = n := by omega
      have HR : Hid ((ls.take k).map readFR = ls.map readFR) := Lib.hid (by rw [List.take_of_length_le (by rw [HN.out]; omega)])
      rw [HR.out] at HO
      have HBW := Lib.hid (HB1.out.trans (HB.out.mono hsz1))
      obtain ⟨L, hL1, hH⟩ := HO.out.holds
      have HH := Lib.hid hH
      have HL1 := Lib.hid hL1
      have PR := printF_ref _ L (by rw [show L.length = (ls.map readFR).length by rw [← hL1, List.length_map], List.length_map, HN.out]; omega) (readFR_small hL1 HP4.out) wr HH.out
      rw [hL1] at PR
      unfold PrPostF at PR
      obtain ⟨T, hT⟩ : ∃ T, T = bsT (printFr (ls.map readFR)).1 := ⟨_, rfl⟩
      obtain ⟨z, hz⟩ : ∃ z, z = (printFr (ls.map readFR)).2 := ⟨_, rfl⟩
      rw [← hT, ← hz] at PR
      have HTZ : Hid (printFr (ls.map readFR) = (T.data.toList, z)) := Lib.hid (by rw [hT, bytesOf, hz])
      have hq := eqT T s
      have HPS := HBB
      clear hT hz hlt hH hL1 HR HO
      cases B with
      | false =>
        have HX : Hid (parseF s.data.toList = none) := Lib.hid (by rw [HPS.out, if_neg (by simp)])
        clear HPS HBB hq
        go_wp2_with (go_at_call 17; (with_reducible refine PR.mono ?_); rintro e w4 ⟨rfl, hb⟩; have HB4 := Lib.hid (HBW.out.trans (hb.mono HBW.out.size)); clear hb PR)
        go_ret2
        exact HBAD.out _ HX.out HB4.out
      | true =>
        by_cases hz0 : z = 0
        · subst hz0
          by_cases hts : T.data.toList = s.data.toList
          · rw [decide_eq_true hts] at hq
            have HX : Hid (parseF s.data.toList = some (ls.map readFR)) := Lib.hid (by rw [HPS.out, if_pos ⟨rfl, by rw [HTZ.out, hts]⟩])
            clear hts HPS HBB
            go_wp2_with (go_at_call 17; (with_reducible refine PR.mono ?_); rintro e w4 ⟨rfl, hb⟩; have HB4 := Lib.hid (HBW.out.trans (hb.mono HBW.out.size)); have HH4 := Lib.hid (HoldF.on HH.out hb); clear hb PR)
            go_ret2
            exact HOK.out L _ _ (by rw [HL1.out]; exact HX.out) HH4.out HB4.out
          · rw [decide_eq_false hts] at hq
            have HX : Hid (parseF s.data.toList = none) := Lib.hid (by rw [HPS.out, if_neg (by rw [HTZ.out]; exact fun g => hts (Prod.mk.inj g.2).1)])
            clear hts HPS HBB
            go_wp2_with (go_at_call 17; (with_reducible refine PR.mono ?_); rintro e w4 ⟨rfl, hb⟩; have HB4 := Lib.hid (HBW.out.trans (hb.mono HBW.out.size)); clear hb PR)
            go_ret2
            exact HBAD.out _ HX.out HB4.out
        · have hzb : (z == 0) = false := by rw [beq_eq_false_iff_ne]; exact hz0
          have hzn : (z != 0) = true := by rw [bne, hzb]; rfl
          have HX : Hid (parseF s.data.toList = none) := Lib.hid (by rw [HPS.out, if_neg (by rw [HTZ.out]; exact fun g => hz0 (Prod.mk.inj g.2).2)])
          clear hz0 hq HPS HBB
          go_wp2_with (go_at_call 17; (with_reducible refine PR.mono ?_); rintro e w4 ⟨rfl, hb⟩; have HB4 := Lib.hid (HBW.out.trans (hb.mono HBW.out.size)); clear hb PR)
          go_ret2
          exact HBAD.out _ HX.out HB4.out
end Go.Proofs.YtceohgjfjndcmaaGreatDoor
