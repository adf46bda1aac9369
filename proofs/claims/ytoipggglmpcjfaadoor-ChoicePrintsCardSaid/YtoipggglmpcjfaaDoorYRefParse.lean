/-
  The reference's Parse of selections: what it returns; nothing old turns.
-/
import Derived.Test.YtoipggglmpcjfaaDoorYParse
import Derived.Test.YtoipggglmpcjfaaDoorYRefPrint
import Derived.Test.YtoipggglmpcjfaaDoorSWordsB
import Derived.Deep.AppendLies
import Derived.Deep.RegionLaw
namespace Go.Proofs.YtoipggglmpcjfaaDoor
open Go.RowKit
def RPaPostY (s : Bs) (w : World) (e : Ending) (w' : World) : Prop := ∃ v b, e = .returned (.tuple #[v, .bool b]) ∧ (∀ l, parseY s = some l → b = true ∧ HoldY w' v l) ∧ (parseY s = none → b = false ∧ v = .slice none 0 0) ∧ Below w.heap.size w w'
theorem parseY_refE (s : Bs) : parseY s = if (spl 10 s).getLast? = some [] then (readsY (spl 10 s).dropLast).bind fun l => if printY l = (s, 0) then some l else none else none := by
  rw [parseY_ref]
  unfold linesO
  split
  · rw [Option.bind_some]
  · rfl
set_option maxRecDepth 100000 in
set_option maxHeartbeats 16000000 in
theorem parseY_refd (s : ByteArray) (hs : s.size ≤ 90000) (hp : ∀ p ∈ spl 10 s.data.toList, p.length ≤ 4000) (w : World) : Calls Tryd.prog 15 #[.string s] w (RPaPostY s.data.toList w) := by
  have L := fun w => lines_ref s (by omega) w
  unfold LinesPost at L
  have HBAD : Hid (∀ w', parseY s.data.toList = none → Below w.heap.size w w' → RPaPostY s.data.toList w (.returned (.tuple #[.slice none 0 0, .bool false])) w') := Lib.hid (fun w' h hb => ⟨_, false, rfl, fun l hl => (by rw [h] at hl; cases hl), fun _ => ⟨rfl, rfl⟩, hb⟩)
  have HOK : Hid (∀ (l : List Sl) v w', parseY s.data.toList = some l → HoldY w' v l → Below w.heap.size w w' → RPaPostY s.data.toList w (.returned (.tuple #[v, .bool true])) w') := Lib.hid (fun l v w' h h1 hb => ⟨v, true, rfl, fun l' hl => (by rw [h] at hl; cases hl; exact ⟨rfl, h1⟩), fun hn => (by rw [h] at hn; cases hn), hb⟩)
  have HREF := Lib.hid (parseY_refE s.data.toList)
  obtain ⟨ls, hls⟩ : ∃ ls, (spl 10 s.data.toList).dropLast = ls := ⟨_, rfl⟩
  rw [hls] at HREF
  simp only [hls] at L
  have hl1 : ls.length ≤ s.size := by
    have := spl_len 10 s.data.toList
    rw [← hls, List.length_dropLast, sizeOf]; omega
  have hl2 : ∀ p ∈ ls, p.length ≤ 4000 := fun p h => hp p (by rw [← hls] at h; exact (List.dropLast_sublist _).subset h)
  have HP4 := Lib.hid hl2
  obtain ⟨i0, hi, hz0, hz1, hz2'⟩ := info_parts infoYr
  obtain ⟨B, hB⟩ : ∃ B : Bool, decide ((spl 10 s.data.toList).getLast? = some []) = B := ⟨_, rfl⟩
  simp only [hB] at L
  have HBB : Hid (parseY s.data.toList = if B = true then (readsY ls).bind fun l => if printY l = (s.data.toList, 0) then some l else none else none) := Lib.hid (by
    rw [HREF.out, ← hB]; simp)
  obtain ⟨n, hN⟩ : ∃ n, ls.length = n := ⟨_, rfl⟩
  rw [hN] at hl1
  have HN := Lib.hid hN
  clear hp hl2 hls hB HREF hN
  go_enter Tryd.func15, Tryd.ntmps15
  go_wp2_with (go_at_call 28; refine (L _).mono ?_; rintro e w1 ⟨v, rfl, hh, hb⟩; obtain ⟨a, c, b, o, rfl, hc, ha, hcell⟩ := hh; rw [HN.out] at hc ha ⊢; have HC := Lib.hid hcell; have HB1 := Lib.hid hb; clear hcell hb L)
  have hsz1 := HB1.out.size
  go_loopw [4, 7] (fun u i wr => ∃ (k : Nat) (xs : List Sl), k ≤ n ∧ i = .int .i64 k ∧ xs.length = k ∧ Hid (readsY (ls.take k) = some xs) ∧ Hid (OwnY 67 wr w1.heap.size u xs) ∧ Hid (Below w1.heap.size w1 wr)) (fun _ i _ => n - (intOf i).toNat)
  case atStart => exact ⟨0, [], by omega, rfl, rfl, Lib.hid rfl, Lib.hid (OwnV.nil _ _ _ _), Lib.hid (Below.refl _ _)⟩
  case round =>
    obtain ⟨k, xs, hk, rfl, hxl, HX, HO, HB⟩ := hrel
    have hsz := HB.out.size
    by_cases hlt : k < n
    · obtain ⟨rfl, hbw⟩ := ha (by omega)
      obtain ⟨p, hp⟩ : ∃ p, ls[k]? = some p := ⟨_, List.getElem?_eq_getElem (by rw [HN.out]; exact hlt)⟩
      have c0 : w1.cell? ⟨b, o + k, none⟩ = some (.string (bsT p)) := HC.out k p hp
      rw [← HB.out.cell (p := ⟨b, o + k, none⟩) hbw] at c0
      have hp4 := HP4.out p (List.mem_of_getElem? hp)
      have SP : Calls Tryd.prog 29 #[.string (bsT p)] wr fun e w' => ∃ v, e = .returned v ∧ HoldT w' v (wordsL p) ∧ Below wr.heap.size wr w' := by
        have := words_ref6 (bsT p) (by rw [sizeOf, bytesOf]; omega) wr
        rwa [bytesOf] at this
      have HBW := Lib.hid (HB1.out.trans (HB.out.mono hsz1))
      generalize bsT p = P at *
      obtain ⟨ua, uc, hu⟩ := OwnV.form HO.out
      rw [List.length_map, hxl] at hu
      subst hu
      by_cases h4 : (wordsL p).length = 3
      · obtain ⟨a4, b4, c4, h5⟩ : ∃ a b c, wordsL p = [a, b, c] := by
          match hsp : wordsL p, h4 with
          | [a, b, c], _ => exact ⟨a, b, c, rfl⟩
        rw [h5] at SP
        have HX2 := Lib.hid (readsY_snoc HX.out hp (readY_three h5))
        have HXX : Hid ((bsT a4).data.toList = a4) := Lib.hid (bytesOf _)
        have HUU : Hid ((bsT c4).data.toList = c4) := Lib.hid (bytesOf _)
        have HOK2 : Hid (wr.ownsRow w1.heap.size 67 3 (.slice ua k uc) k (xs.map cellsY).flatten) := Lib.hid (by have := HO.out.2; rw [List.length_map, hxl] at this; exact this)
        have HAPP : Hid (∀ v' w3, w3.ownsRow w1.heap.size 67 3 v' (k + 1) ((xs.map cellsY).flatten ++ [.string (bsT a4), .bool (decide (b4 = manY)), .string (bsT c4)]) → OwnY 67 w3 w1.heap.size v' (xs ++ [(a4, decide (b4 = manY), c4)])) := Lib.hid (fun v' w3 h => OwnY.app (x := (a4, decide (b4 = manY), c4)) HXX.out HUU.out (by rw [hxl]; exact h))
        have HXL2 : Hid ((xs ++ [(a4, decide (b4 = manY), c4)]).length = k + 1) := Lib.hid (by rw [List.length_append, hxl]; rfl)
        have HCL : Hid (∀ (W : World) v, HoldT W v [a4, b4, c4] → ∃ (ub uo uc : Nat), v = .slice (some ⟨ub, uo, none⟩) 3 uc ∧ 3 ≤ uc ∧ ub < W.heap.size ∧ W.cell? ⟨ub, uo, none⟩ = some (.string (bsT a4)) ∧ W.cell? ⟨ub, uo + 1, none⟩ = some (.string (bsT b4)) ∧ W.cell? ⟨ub, uo + 2, none⟩ = some (.string (bsT c4))) := Lib.hid (fun W v ho => by
          obtain ⟨ua', uc', ub, uo, rfl, hcc, hua, hcell⟩ := ho
          obtain ⟨rfl, hub⟩ := hua (by simp)
          exact ⟨ub, uo, uc', rfl, hcc, hub, by simpa using hcell 0 a4 rfl, hcell 1 b4 rfl, hcell 2 c4 rfl⟩)
        have hqb := eqTL (bsT b4) [109, 97, 110, 117, 97, 108]
        rw [bytesOf] at hqb
        have hqm : decide (b4 = [109, 97, 110, 117, 97, 108]) = decide (b4 = manY) := rfl
        rw [hqm] at hqb
        clear h5 hp HX hxl HO h4 hqm
        generalize decide (b4 = manY) = m at *
        generalize bsT a4 = A1 at *
        generalize bsT b4 = B1' at *
        generalize bsT c4 = C1 at *
        go_wp2_with (go_at_call 29; (with_reducible refine SP.mono ?_); rintro e w2 ⟨v2, rfl, ho, hb⟩; obtain ⟨ub, uo, ucc, rfl, hcc, hub2, d0, d1, d2⟩ := HCL.out _ _ ho; have HB2 := Lib.hid (HB.out.trans (hb.mono hsz)); have hz2 := HB2.out.size; have HO2 : Hid (w2.ownsRow w1.heap.size 67 3 (.slice ua k uc) k (xs.map cellsY).flatten) := Lib.hid (World.ownsRow.kept HOK2.out (grownV hb) (by cases Value.ownBlock _ <;> simp)); clear ho hb SP)
        have HV : Hid (Below w2.heap.size w2 (w2.alloc (.cells #[.string A1, .bool m, .string C1] 67)).drew) := Lib.hid ((Below.refl _ _).alloc (Nat.le_refl _) _).drew
        have HOA : Hid (World.ownsRow (w2.alloc (.cells #[.string A1, .bool m, .string C1] 67)).drew w1.heap.size 67 3 (.slice ua k uc) k (xs.map cellsY).flatten) := Lib.hid (World.ownsRow.kept HO2.out (grownV HV.out) (by cases Value.ownBlock _ <;> simp))
        have HNW : Hid (∀ j u, [Value.string A1, Value.bool m, Value.string C1][j]? = some u → (w2.alloc (.cells #[.string A1, .bool m, .string C1] 67)).drew.cell? ((⟨w2.heap.size, 0, none⟩ : Addr).add j) = some u) := Lib.hid (fun j u hj => by
          obtain ⟨x0, x1, x2⟩ := boxV3 w2 (.string A1) (.bool m) (.string C1) 67
          rw [Addr.add_lit]
          match j, hj with
          | 0, hj => simp at hj; subst hj; exact x0
          | 1, hj => simp at hj; subst hj; exact x1
          | 2, hj => simp at hj; subst hj; exact x2)
        have HBF : Hid (Below w1.heap.size w1 (w2.alloc (.cells #[.string A1, .bool m, .string C1] 67)).drew) := Lib.hid (HB2.out.alloc hz2 _).drew
        have hkb : k ≤ 90000 := by omega
        go_wp2
        go_region_law (refine step_append_lies _ rfl _ _ 32 rfl w1.heap.size 67 i0 (.agg #[.string ⟨#[]⟩, .bool false, .string ⟨#[]⟩]) 3 40 Tryd.underlying32 hi hz0 hz1 hz2' rfl (by decide) _ _ _ rfl HOA.out ⟨w2.heap.size, 0, none⟩ 1 1 [.string A1, .bool m, .string C1] rfl rfl HNW.out (by simp [Value.oneCell']) (by decide) (by unfold maxLen; omega) (by omega) (by simp; omega) _ rfl ?_; intro g cap w6 hown' hgrow h4 h5; have HO6 := Lib.hid (HAPP.out _ _ hown'); have HG6 := Lib.hid hgrow; clear hown' hgrow h4 h5)
        all_goals
          have HB3 : Hid (Below w1.heap.size w1 w6) := Lib.hid (HBF.out.grown HG6.out HBF.out.size (fun k hk => by have := (World.ownsRow.lt HOA.out k hk).1; omega))
          clear HG6 HOA HNW HBF HV
          go_wp2
          go_roundw
          case rel => exact ⟨k + 1, _, by omega, by go_num, HXL2.out, HX2, HO6, HB3⟩
          case measure => simp [intOf]; omega
      · have HNO : Hid (parseY s.data.toList = none) := Lib.hid (by
          rw [HBB.out, readsY_bad hp (readY_not h4)]; simp)
        obtain ⟨m, hm⟩ : ∃ m, (wordsL p).length = m := ⟨_, rfl⟩
        have HM := Lib.hid hm
        rw [hm] at h4
        have e4 : ((m : Int) != 3) = true := by rw [bne_iff_ne]; omega
        have e4' : ((m : Int) == 3) = false := by rw [beq_eq_false_iff_ne]; omega
        clear hm hp h4
        go_wp2_with (go_at_call 29; (with_reducible refine SP.mono ?_); rintro e w2 ⟨v2, rfl, ho, hb⟩; obtain ⟨ua', uc', ub, uo, rfl, -⟩ := ho; rw [HM.out]; have HB2 := Lib.hid (HBW.out.trans (hb.mono HBW.out.size)); clear hb SP)
        go_ret2
        exact HBAD.out _ HNO.out HB2.out
    · obtain rfl : k = n := by omega
      have HR : Hid (readsY ls = some xs) := Lib.hid (by have := HX.out; rw [List.take_of_length_le (by rw [HN.out]; omega)] at this; exact this)
      have HBW := Lib.hid (HB1.out.trans (HB.out.mono hsz1))
      have HH := Lib.hid HO.out.holds
      have PR := printY_ref _ xs (by omega) (readsY_small HR.out HP4.out) wr HH.out
      unfold PrPostY at PR
      obtain ⟨ua, uc, hu⟩ := OwnV.form HO.out
      rw [List.length_map, hxl] at hu
      subst hu
      obtain ⟨T, hT⟩ : ∃ T, T = bsT (printY xs).1 := ⟨_, rfl⟩
      obtain ⟨z, hz⟩ : ∃ z, z = (printY xs).2 := ⟨_, rfl⟩
      rw [← hT, ← hz] at PR
      have HTZ : Hid (printY xs = (T.data.toList, z)) := Lib.hid (by rw [hT, bytesOf, hz])
      have hq := eqT T s
      have HPX : Hid (parseY s.data.toList = if B = true then (if (T.data.toList, z) = (s.data.toList, 0) then some xs else none) else none) := Lib.hid (by rw [HBB.out, HR.out, Option.bind_some, HTZ.out])
      clear hT hz HO hlt HX hxl
      cases B with
      | false =>
        have HX : Hid (parseY s.data.toList = none) := Lib.hid (by rw [HPX.out, if_neg (by simp)])
        clear hq
        go_wp2_with (go_at_call 9; (with_reducible refine PR.mono ?_); rintro e w4 ⟨rfl, hb⟩; have HB4 := Lib.hid (HBW.out.trans (hb.mono HBW.out.size)); clear hb PR)
        go_ret2
        exact HBAD.out _ HX.out HB4.out
      | true =>
        by_cases hz0 : z = 0
        · subst hz0
          by_cases hts : T.data.toList = s.data.toList
          · rw [decide_eq_true hts] at hq
            have HX : Hid (parseY s.data.toList = some xs) := Lib.hid (by rw [HPX.out, if_pos rfl, if_pos (by rw [hts])])
            clear hts
            go_wp2_with (go_at_call 9; (with_reducible refine PR.mono ?_); rintro e w4 ⟨rfl, hb⟩; have HB4 := Lib.hid (HBW.out.trans (hb.mono HBW.out.size)); have HH4 := Lib.hid (HoldV.on HH.out hb); clear hb PR)
            go_ret2
            exact HOK.out xs _ _ HX.out HH4.out HB4.out
          · rw [decide_eq_false hts] at hq
            have HX : Hid (parseY s.data.toList = none) := Lib.hid (by rw [HPX.out, if_pos rfl, if_neg (fun g => hts (Prod.mk.inj g).1)])
            clear hts
            go_wp2_with (go_at_call 9; (with_reducible refine PR.mono ?_); rintro e w4 ⟨rfl, hb⟩; have HB4 := Lib.hid (HBW.out.trans (hb.mono HBW.out.size)); clear hb PR)
            go_ret2
            exact HBAD.out _ HX.out HB4.out
        · have hzb : (z == 0) = false := by rw [beq_eq_false_iff_ne]; exact hz0
          have hzn : (z != 0) = true := by rw [bne, hzb]; rfl
          have HX : Hid (parseY s.data.toList = none) := Lib.hid (by rw [HPX.out, if_pos rfl, if_neg (fun g => hz0 (Prod.mk.inj g).2)])
          clear hz0 hq
          go_wp2_with (go_at_call 9; (with_reducible refine PR.mono ?_); rintro e w4 ⟨rfl, hb⟩; have HB4 := Lib.hid (HBW.out.trans (hb.mono HBW.out.size)); clear hb PR)
          go_ret2
          exact HBAD.out _ HX.out HB4.out
end Go.Proofs.YtoipggglmpcjfaaDoor
