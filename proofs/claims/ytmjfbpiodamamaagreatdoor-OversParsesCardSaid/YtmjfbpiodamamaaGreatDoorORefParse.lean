/-
  The reference's Parse of overrides: what it returns; nothing old turns.
-/
import Derived.Test.YtmjfbpiodamamaaGreatDoorOParse
import Derived.Test.YtmjfbpiodamamaaGreatDoorORefPrint
import Derived.Test.YtmjfbpiodamamaaGreatDoorSWords
namespace Go.Proofs.YtmjfbpiodamamaaGreatDoor
open Go.RowKit
def RPaPostO (s : Bs) (w : World) (e : Ending) (w' : World) : Prop := ∃ v b, e = .returned (.tuple #[v, .bool b]) ∧ (∀ l, parseO s = some l → b = true ∧ HoldO w' v l) ∧ (parseO s = none → b = false ∧ v = .slice none 0 0) ∧ Below w.heap.size w w'
theorem linesO_is (s : Bs) : linesO s = if (spl 10 s).getLast? = some [] then some (spl 10 s).dropLast else none := rfl
open Classical in
theorem parseO_ref (s : Bs) : parseO s = if (spl 10 s).getLast? = some [] then (eachO readO (spl 10 s).dropLast).bind fun l => if printO l = (s, 0) then some l else none else none := by
  unfold parseO
  rw [linesO_is]
  split
  · rw [Option.bind_some, each_reads]
  · rfl
theorem behind_ref (s : ByteArray) (w : World) : Calls Tryz.prog 40 #[.string s] w fun e w' => e = .returned (.string (bsT s.data.toList.tail)) ∧ w = w' := by
  have he := emptyT s
  have hq := eqTL s []
  by_cases h0 : s.size = 0
  · have hn : s.data.toList = [] := List.eq_nil_of_length_eq_zero (by rw [← sizeOf]; exact h0)
    rw [decide_eq_true h0] at he
    rw [decide_eq_true hn] at hq
    have HE : Hid (bsT s.data.toList.tail = ⟨#[]⟩) := Lib.hid (by rw [hn]; rfl)
    clear h0 hn
    go_enter Tryz.func40, Tryz.ntmps40
    go_wp2
    go_ret
    exact ⟨by rw [HE.out]; rfl, rfl⟩
  · have hn : ¬ s.data.toList = [] := fun e => h0 (by rw [sizeOf, e]; rfl)
    rw [decide_eq_false h0] at he
    rw [decide_eq_false hn] at hq
    have h1 : 1 ≤ s.size := by omega
    have HE : Hid (s.extract 1 s.size = bsT s.data.toList.tail) := Lib.hid (strOf (by rw [extL, List.drop_one, List.take_of_length_le (by rw [List.length_tail, sizeOf]; exact Nat.le_refl _)]))
    clear h0 hn
    go_enter Tryz.func40, Tryz.ntmps40
    go_wp2
    go_ret
    exact ⟨retv (by rw [← HE.out]; rfl), rfl⟩
theorem int_ref2 (s : ByteArray) (hs : s.size ≤ 4000) (w : World) : Calls Tryz.prog 39 #[.string s] w fun e w' => ∃ b, e = .returned (.tuple #[.int .i64 (intO s.data.toList), .bool b]) ∧ w = w' :=
  (bitsTextsw.int_ref s hs w).mono (fun e w' hp => by
    unfold bitsTextsw.IntRPost at hp
    unfold intO
    cases hn : numI s.data.toList with
    | some n => rw [hn] at hp; exact ⟨true, hp.1, hp.2⟩
    | none => rw [hn] at hp; exact ⟨false, hp.1, hp.2⟩)
theorem oct_ref2 (s : ByteArray) (hs : s.size ≤ 4000) (w : World) : Calls Tryz.prog 41 #[.string s] w fun e w' => ∃ b, e = .returned (.tuple #[.int .i64 (modeO s.data.toList), .bool b]) ∧ w = w' :=
  (parseOctal_ref s hs w).mono (fun e w' hp => by
    unfold OctRPost at hp
    unfold modeO
    cases hn : numOf 8 4 s.data.toList with
    | some n => rw [hn] at hp; exact ⟨true, hp.1, hp.2⟩
    | none => rw [hn] at hp; exact ⟨false, hp.1, hp.2⟩)
theorem readO_four {p a b c d : Bs} (h : spl 32 p = [a, b, c, d]) : readO p = some (d, modeO c, intO a.tail, intO b.tail) := by unfold readO; rw [h]
theorem readO_not {p : Bs} (h : (spl 32 p).length ≠ 4) : readO p = none := by
  unfold readO
  split
  · rename_i a b c d e; rw [e] at h; simp at h
  · rfl
open Classical in
set_option maxRecDepth 100000 in
set_option maxHeartbeats 16000000 in
theorem parseO_refd (s : ByteArray) (hs : s.size ≤ 90000) (hp : ∀ p ∈ spl 10 s.data.toList, p.length ≤ 4000) (w : World) : Calls Tryz.prog 15 #[.string s] w (RPaPostO s.data.toList w) := by
  have L := fun w => lines_ref s (by omega) w
  unfold LinesPost at L
  have HBAD : Hid (∀ w', parseO s.data.toList = none → Below w.heap.size w w' → RPaPostO s.data.toList w (.returned (.tuple #[.slice none 0 0, .bool false])) w') := Lib.hid (fun w' h hb => ⟨_, false, rfl, fun l hl => (by rw [h] at hl; cases hl), fun _ => ⟨rfl, rfl⟩, hb⟩)
  have HOK : Hid (∀ (l : List Ov) v w', parseO s.data.toList = some l → HoldO w' v l → Below w.heap.size w w' → RPaPostO s.data.toList w (.returned (.tuple #[v, .bool true])) w') := Lib.hid (fun l v w' h h1 hb => ⟨v, true, rfl, fun l' hl => (by rw [h] at hl; cases hl; exact ⟨rfl, h1⟩), fun hn => (by rw [h] at hn; cases hn), hb⟩)
  have HREF := Lib.hid (parseO_ref s.data.toList)
  obtain ⟨ls, hls⟩ : ∃ ls, (spl 10 s.data.toList).dropLast = ls := ⟨_, rfl⟩
  rw [hls] at HREF
  simp only [hls] at L
  have hl1 : ls.length ≤ s.size := by
    have := spl_len 10 s.data.toList
    rw [← hls, List.length_dropLast, sizeOf]; omega
  have hl2 : ∀ p ∈ ls, p.length ≤ 4000 := fun p h => hp p (by rw [← hls] at h; exact (List.dropLast_sublist _).subset h)
  have HP4 := Lib.hid hl2
  obtain ⟨i0, hi, hz0, hz1, hz2'⟩ := info_parts infoO
  obtain ⟨B, hB⟩ : ∃ B : Bool, decide ((spl 10 s.data.toList).getLast? = some []) = B := ⟨_, rfl⟩
  simp only [hB] at L
  have HBB : Hid (parseO s.data.toList = if B = true then (eachO readO ls).bind fun l => if printO l = (s.data.toList, 0) then some l else none else none) := Lib.hid (by
    rw [HREF.out, ← hB]; simp)
  obtain ⟨n, hN⟩ : ∃ n, ls.length = n := ⟨_, rfl⟩
  rw [hN] at hl1
  have HN := Lib.hid hN
  clear hp hl2 hls hB HREF hN
  go_enter Tryz.func15, Tryz.ntmps15
  go_wp2_with (go_at_call 37; refine (L _).mono ?_; rintro e w1 ⟨v, rfl, hh, hb⟩; obtain ⟨a, c, b, o, rfl, hc, ha, hcell⟩ := hh; rw [HN.out] at hc ha ⊢; have HC := Lib.hid hcell; have HB1 := Lib.hid hb; clear hcell hb L)
  have hsz1 := HB1.out.size
  go_loopw [4, 7] (fun u i wr => ∃ (k : Nat) (xs : List Ov), k ≤ n ∧ i = .int .i64 k ∧ xs.length = k ∧ Hid (eachO readO (ls.take k) = some xs) ∧ Hid (OwnO wr w1.heap.size u xs) ∧ Hid (Below w1.heap.size w1 wr)) (fun _ i _ => n - (intOf i).toNat)
  case atStart => exact ⟨0, [], by omega, rfl, rfl, Lib.hid rfl, Lib.hid (OwnV.nil _ _ _ _), Lib.hid (Below.refl _ _)⟩
  case round =>
    obtain ⟨k, xs, hk, rfl, hxl, HX, HO, HB⟩ := hrel
    have hsz := HB.out.size
    by_cases hlt : k < n
    · obtain ⟨rfl, hbw⟩ := ha (by omega)
      obtain ⟨p, hp⟩ : ∃ p, ls[k]? = some p := ⟨_, List.getElem?_eq_getElem (by rw [HN.out]; exact hlt)⟩
      have c0 := HC.out k p hp
      rw [← HB.out.cell (p := ⟨b, o + k, none⟩) hbw] at c0
      have hp4 := HP4.out p (List.mem_of_getElem? hp)
      have SP : Calls Tryz.prog 38 #[.string ⟨p.toArray⟩, .int .u8 32] wr fun e w' => ∃ v, e = .returned v ∧ OwnT w' wr.heap.size v (spl 32 p) ∧ Below wr.heap.size wr w' := by
        have := split_ref6 ⟨p.toArray⟩ (by rw [sizeOf, bytesOf]; omega) 32 wr
        rwa [bytesOf] at this
      have HBW := Lib.hid (HB1.out.trans (HB.out.mono hsz1))
      generalize (⟨p.toArray⟩ : ByteArray) = P at *
      obtain ⟨ua, uc, hu⟩ := OwnV.form HO.out
      rw [List.length_map, hxl] at hu
      subst hu
      by_cases h4 : (spl 32 p).length = 4
      · obtain ⟨a4, b4, c4, d4, h5⟩ : ∃ a b c d, spl 32 p = [a, b, c, d] := by
          match hsp : spl 32 p, h4 with
          | [a, b, c, d], _ => exact ⟨a, b, c, d, rfl⟩
        have hl := spl_piece 32 p
        rw [h5] at SP hl
        have la := hl a4 (by simp)
        have lb := hl b4 (by simp)
        have lc := hl c4 (by simp)
        have HX2 := Lib.hid (each_snoc HX.out hp (readO_four h5))
        have IA : ∀ W, Calls Tryz.prog 39 #[.string (bsT a4.tail)] W fun e w' => ∃ b, e = .returned (.tuple #[.int .i64 (intO a4.tail), .bool b]) ∧ W = w' := fun W => by
          have := int_ref2 (bsT a4.tail) (by rw [sizeOf, bytesOf, List.length_tail]; omega) W
          rwa [bytesOf] at this
        have IB : ∀ W, Calls Tryz.prog 39 #[.string (bsT b4.tail)] W fun e w' => ∃ b, e = .returned (.tuple #[.int .i64 (intO b4.tail), .bool b]) ∧ W = w' := fun W => by
          have := int_ref2 (bsT b4.tail) (by rw [sizeOf, bytesOf, List.length_tail]; omega) W
          rwa [bytesOf] at this
        have IC : ∀ W, Calls Tryz.prog 41 #[.string (bsT c4)] W fun e w' => ∃ b, e = .returned (.tuple #[.int .i64 (modeO c4), .bool b]) ∧ W = w' := fun W => by
          have := oct_ref2 (bsT c4) (by rw [sizeOf, bytesOf]; omega) W
          rwa [bytesOf] at this
        have BA : ∀ W, Calls Tryz.prog 40 #[.string (bsT a4)] W fun e w' => e = .returned (.string (bsT a4.tail)) ∧ W = w' := fun W => by
          have := behind_ref (bsT a4) W
          rwa [bytesOf] at this
        have BB : ∀ W, Calls Tryz.prog 40 #[.string (bsT b4)] W fun e w' => e = .returned (.string (bsT b4.tail)) ∧ W = w' := fun W => by
          have := behind_ref (bsT b4) W
          rwa [bytesOf] at this
        have HXX : Hid ((bsT d4).data.toList = d4) := Lib.hid (bytesOf _)
        have HOK2 : Hid (wr.ownsRow w1.heap.size 41 4 (.slice ua k uc) k (xs.map cellsO).flatten) := Lib.hid (by have := HO.out.2; rw [List.length_map, hxl] at this; exact this)
        have HAPP : Hid (∀ v' w3, w3.ownsRow w1.heap.size 41 4 v' (k + 1) ((xs.map cellsO).flatten ++ [.string (bsT d4), .int .i64 (modeO c4), .int .i64 (intO a4.tail), .int .i64 (intO b4.tail)]) → OwnO w3 w1.heap.size v' (xs ++ [(d4, modeO c4, intO a4.tail, intO b4.tail)])) := Lib.hid (fun v' w3 h => OwnO.app (x := (d4, modeO c4, intO a4.tail, intO b4.tail)) HXX.out (by rw [hxl]; exact h))
        have HXL2 : Hid ((xs ++ [(d4, modeO c4, intO a4.tail, intO b4.tail)]).length = k + 1) := Lib.hid (by rw [List.length_append, hxl]; rfl)
        have HCL : Hid (∀ (W : World) v, OwnT W wr.heap.size v [a4, b4, c4, d4] → ∃ (ub uo uc : Nat), v = .slice (some ⟨ub, uo, none⟩) 4 uc ∧ 4 ≤ uc ∧ W.cell? ⟨ub, uo, none⟩ = some (.string (bsT a4)) ∧ W.cell? ⟨ub, uo + 1, none⟩ = some (.string (bsT b4)) ∧ W.cell? ⟨ub, uo + 2, none⟩ = some (.string (bsT c4)) ∧ W.cell? ⟨ub, uo + 3, none⟩ = some (.string (bsT d4))) := Lib.hid (fun W v ho => by
          obtain ⟨ua', uc', ub, uo, rfl, hcc, hua, hcell⟩ := ho.holds
          obtain ⟨rfl, _⟩ := hua (by simp)
          exact ⟨ub, uo, uc', rfl, hcc, by simpa using hcell 0 a4 rfl, hcell 1 b4 rfl, hcell 2 c4 rfl, hcell 3 d4 rfl⟩)
        clear hl la lb lc h5 hp HX hxl HO h4
        generalize bsT a4.tail = A2 at *
        generalize bsT b4.tail = B2 at *
        generalize bsT a4 = A1 at *
        generalize bsT b4 = B1' at *
        generalize bsT c4 = C1 at *
        generalize bsT d4 = D1 at *
        generalize modeO c4 = m1 at *
        generalize intO a4.tail = u1 at *
        generalize intO b4.tail = g1 at *
        go_wp2_with (first
          | (go_at_call 38; (with_reducible refine SP.mono ?_); rintro e w2 ⟨v2, rfl, ho, hb⟩; obtain ⟨ub, uo, ucc, rfl, hcc, d0, d1, d2, d3⟩ := HCL.out _ _ ho; have HB2 := Lib.hid (HB.out.trans (hb.mono hsz)); have hz2 := HB2.out.size; have HO2 : Hid (w2.ownsRow w1.heap.size 41 4 (.slice ua k uc) k (xs.map cellsO).flatten) := Lib.hid (World.ownsRow.kept HOK2.out (grownV hb) (by cases Value.ownBlock _ <;> simp)); clear ho hb SP)
          | (go_at_call 40; first | ((with_reducible refine (BA _).mono ?_); rintro e w3 ⟨rfl, rfl⟩) | ((with_reducible refine (BB _).mono ?_); rintro e w3 ⟨rfl, rfl⟩))
          | (go_at_call 39; first | ((with_reducible refine (IA _).mono ?_); rintro e w3 ⟨b1, rfl, rfl⟩) | ((with_reducible refine (IB _).mono ?_); rintro e w3 ⟨b2, rfl, rfl⟩))
          | (go_at_call 41; (with_reducible refine (IC _).mono ?_); rintro e w3 ⟨b3, rfl, rfl⟩)
          | (at_builtin; refine wpList_append_own _ rfl _ _ 22 rfl w1.heap.size 41 i0 _ 4 40 Tryz.underlying22 hi hz0 hz1 hz2' rfl (by decide) _ _ _ rfl (World.ownsRow.alloc HO2.out _) ⟨w2.heap.size, 0, none⟩ 1 1 [.string D1, .int .i64 m1, .int .i64 u1, .int .i64 g1] rfl rfl ?c1 ?c2 ?c3 ?c4 ?c5 ?_))
        case c1 =>
          intro j u hj
          obtain ⟨x0, x1, x2, x3⟩ := boxV4 w2 (.string D1) (.int .i64 m1) (.int .i64 u1) (.int .i64 g1) 41
          rw [Addr.add_lit]
          match j, hj with
          | 0, hj => simp at hj; subst hj; exact x0
          | 1, hj => simp at hj; subst hj; exact x1
          | 2, hj => simp at hj; subst hj; exact x2
          | 3, hj => simp at hj; subst hj; exact x3
        case c2 => intro u hu; simp at hu; rcases hu with rfl | rfl | rfl | rfl <;> rfl
        case c3 => unfold maxLen; omega
        case c4 => omega
        case c5 => simp; omega
        · intro v' w5 hown' hgrow _
          have HO3 := Lib.hid (HAPP.out _ _ hown')
          have HB3 : Hid (Below w1.heap.size w1 w5) := Lib.hid ((HB2.out.alloc hz2 _).grown hgrow (by simp; omega) (fun k hk => by have := (World.ownsRow.lt HO2.out k hk).1; omega))
          clear hown' hgrow
          go_wp2
          go_roundw
          case rel => exact ⟨k + 1, _, by omega, by go_num, HXL2.out, HX2, HO3, HB3⟩
          case measure => simp [intOf]; omega
      · have HNO : Hid (parseO s.data.toList = none) := Lib.hid (by
          rw [HBB.out, each_bad hp (readO_not h4)]; simp)
        obtain ⟨m, hm⟩ : ∃ m, (spl 32 p).length = m := ⟨_, rfl⟩
        have HM := Lib.hid hm
        rw [hm] at h4
        have e4 : ((m : Int) != 4) = true := by rw [bne_iff_ne]; omega
        have e4' : ((m : Int) == 4) = false := by rw [beq_eq_false_iff_ne]; omega
        clear hm hp h4
        go_wp2_with (go_at_call 38; (with_reducible refine SP.mono ?_); rintro e w2 ⟨v2, rfl, ho, hb⟩; obtain ⟨ua', uc', ub, uo, rfl, -⟩ := ho.holds; rw [HM.out]; have HB2 := Lib.hid (HBW.out.trans (hb.mono HBW.out.size)); clear ho hb SP)
        go_ret2
        exact HBAD.out _ HNO.out HB2.out
    · obtain rfl : k = n := by omega
      have HR : Hid (eachO readO ls = some xs) := Lib.hid (by have := HX.out; rw [List.take_of_length_le (by rw [HN.out]; omega)] at this; exact this)
      have HBW := Lib.hid (HB1.out.trans (HB.out.mono hsz1))
      have HH := Lib.hid HO.out.holds
      have PR := printO_ref _ xs (by omega) (each_small readO_len HR.out HP4.out) wr HH.out
      unfold PrPostO at PR
      obtain ⟨ua, uc, hu⟩ := OwnV.form HO.out
      rw [List.length_map, hxl] at hu
      subst hu
      obtain ⟨T, hT⟩ : ∃ T, T = bsT (printO xs).1 := ⟨_, rfl⟩
      obtain ⟨z, hz⟩ : ∃ z, z = (printO xs).2 := ⟨_, rfl⟩
      rw [← hT, ← hz] at PR
      have HTZ : Hid (printO xs = (T.data.toList, z)) := Lib.hid (by rw [hT, bytesOf, hz])
      have hq := eqT T s
      have HPX : Hid (parseO s.data.toList = if B = true then (if (T.data.toList, z) = (s.data.toList, 0) then some xs else none) else none) := Lib.hid (by rw [HBB.out, HR.out, Option.bind_some, HTZ.out])
      clear hT hz HO hlt HX hxl
      cases B with
      | false =>
        have HX : Hid (parseO s.data.toList = none) := Lib.hid (by rw [HPX.out, if_neg (by simp)])
        clear hq
        go_wp2_with (go_at_call 10; (with_reducible refine PR.mono ?_); rintro e w4 ⟨rfl, hb⟩; have HB4 := Lib.hid (HBW.out.trans (hb.mono HBW.out.size)); clear hb PR)
        go_ret2
        exact HBAD.out _ HX.out HB4.out
      | true =>
        by_cases hz0 : z = 0
        · subst hz0
          by_cases hts : T.data.toList = s.data.toList
          · rw [decide_eq_true hts] at hq
            have HX : Hid (parseO s.data.toList = some xs) := Lib.hid (by rw [HPX.out, if_pos rfl, if_pos (by rw [hts])])
            clear hts
            go_wp2_with (go_at_call 10; (with_reducible refine PR.mono ?_); rintro e w4 ⟨rfl, hb⟩; have HB4 := Lib.hid (HBW.out.trans (hb.mono HBW.out.size)); have HH4 := Lib.hid (HoldV.on HH.out hb); clear hb PR)
            go_ret2
            exact HOK.out xs _ _ HX.out HH4.out HB4.out
          · rw [decide_eq_false hts] at hq
            have HX : Hid (parseO s.data.toList = none) := Lib.hid (by rw [HPX.out, if_pos rfl, if_neg (fun g => hts (Prod.mk.inj g).1)])
            clear hts
            go_wp2_with (go_at_call 10; (with_reducible refine PR.mono ?_); rintro e w4 ⟨rfl, hb⟩; have HB4 := Lib.hid (HBW.out.trans (hb.mono HBW.out.size)); clear hb PR)
            go_ret2
            exact HBAD.out _ HX.out HB4.out
        · have hzb : (z == 0) = false := by rw [beq_eq_false_iff_ne]; exact hz0
          have hzn : (z != 0) = true := by rw [bne, hzb]; rfl
          have HX : Hid (parseO s.data.toList = none) := Lib.hid (by rw [HPX.out, if_pos rfl, if_neg (fun g => hz0 (Prod.mk.inj g).2)])
          clear hz0 hq
          go_wp2_with (go_at_call 10; (with_reducible refine PR.mono ?_); rintro e w4 ⟨rfl, hb⟩; have HB4 := Lib.hid (HBW.out.trans (hb.mono HBW.out.size)); clear hb PR)
          go_ret2
          exact HBAD.out _ HX.out HB4.out
end Go.Proofs.YtmjfbpiodamamaaGreatDoor
