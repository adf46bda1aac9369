/-
  The reference's Parse of diversions: what it returns; nothing old turns.
-/
import Derived.Test.YtgjnhnaccdmbjaaDoorDParse
import Derived.Test.YtgjnhnaccdmbjaaDoorDRefPrint
import Derived.Test.YtgjnhnaccdmbjaaDoorSWords
import Derived.IntWalk
import Derived.BigRegion
namespace Go.Proofs.YtgjnhnaccdmbjaaDoor
open Go.RowKit
def RPaPost (s : Bs) (w : World) (e : Ending) (w' : World) : Prop := ∃ v b, e = .returned (.tuple #[v, .bool b]) ∧ (∀ l, parseD s = some l → b = true ∧ HoldD w' v l) ∧ (parseD s = none → b = false) ∧ Below w.heap.size w w'
theorem linesO_is (s : Bs) : linesO s = if (spl 10 s).getLast? = some [] then some (spl 10 s).dropLast else none := rfl
open Classical in
set_option maxRecDepth 100000 in
set_option maxHeartbeats 16000000 in
theorem parse9_ref (s : ByteArray) (hs : s.size ≤ 90000) (hp : ∀ p ∈ spl 10 s.data.toList, p.length ≤ 4000) (w : World) : Calls Tryd.prog 16 #[.string s] w (RPaPost s.data.toList w) := by
  have L := fun w => lines_ref s (by omega) w
  unfold LinesPost at L
  have HBAD : Hid (∀ w', parseD s.data.toList = none → Below w.heap.size w w' → RPaPost s.data.toList w (.returned (.tuple #[.slice none 0 0, .bool false])) w') := Lib.hid (fun w' h hb => ⟨_, false, rfl, fun l hl => (by rw [h] at hl; cases hl), fun _ => rfl, hb⟩)
  have HOK : Hid (∀ l v w', parseD s.data.toList = some l → HoldD w' v l → Below w.heap.size w w' → RPaPost s.data.toList w (.returned (.tuple #[v, .bool true])) w') := Lib.hid (fun l v w' h h1 hb => ⟨v, true, rfl, fun l' hl => (by rw [h] at hl; cases hl; exact ⟨rfl, h1⟩), fun hn => (by rw [h] at hn; cases hn), hb⟩)
  obtain ⟨ls, hls⟩ : ∃ ls, (spl 10 s.data.toList).dropLast = ls := ⟨_, rfl⟩
  have HLO := Lib.hid (linesO_is s.data.toList)
  rw [hls] at HLO
  simp only [hls] at L
  have hl1 : ls.length ≤ s.size := by
    have := spl_len 10 s.data.toList
    rw [← hls, List.length_dropLast, sizeOf]; omega
  have hl2 : ∀ p ∈ ls, p.length ≤ 4000 := fun p h => hp p (by rw [← hls] at h; exact (List.dropLast_sublist _).subset h)
  have HSM : Hid (SmallD (readD ls)) := Lib.hid (fun x hx => read_sizes 4000 _ ls (Nat.le_refl _) hl2 x hx)
  have HRL : Hid ((readD ls).length ≤ 90000) := Lib.hid (Nat.le_trans (read_len _ ls (Nat.le_refl _)) (by omega))
  obtain ⟨i0, hi, hz0, hz1, hz2'⟩ := info_parts infoD
  obtain ⟨B, hB⟩ : ∃ B : Bool, decide ((spl 10 s.data.toList).getLast? = some []) = B := ⟨_, rfl⟩
  simp only [hB] at L
  have HBB : Hid (∀ ls', linesO s.data.toList = some ls' ↔ (B = true ∧ ls' = ls)) := Lib.hid (fun ls' => by
    rw [HLO.out, ← hB]
    by_cases g : (spl 10 s.data.toList).getLast? = some []
    · rw [if_pos g, decide_eq_true g]; simp [eq_comm]
    · rw [if_neg g, decide_eq_false g]; simp)
  obtain ⟨n, hN⟩ : ∃ n, ls.length = n := ⟨_, rfl⟩
  rw [hN] at hl1
  have HN := Lib.hid hN
  clear hp hl2 hls hB HLO
  go_enter Tryd.func16, Tryd.ntmps16
  go_wp2_with (go_at_call 36; refine (L _).mono ?_; rintro e w1 ⟨v, rfl, hh, hb⟩; obtain ⟨a, c, b, o, rfl, hc, ha, hcell⟩ := hh; rw [HN.out] at hc ha ⊢; have HC := Lib.hid hcell; have HB1 := Lib.hid hb; clear hcell hb L)
  have hsz1 := HB1.out.size
  clear hN
  go_loopw [4, 7] (fun u i wr => ∃ k : Nat, 3 * k ≤ n ∧ i = .int .i64 (3 * k : Nat) ∧ Hid (OwnD wr w1.heap.size u (readD (ls.take (3 * k)))) ∧ Hid (Below w1.heap.size w1 wr)) (fun _ i _ => n + 3 - (intOf i).toNat)
  case atStart => exact ⟨0, by omega, rfl, Lib.hid (OwnD.nil _ _), Lib.hid (Below.refl _ _)⟩
  case round =>
    obtain ⟨k, hk, rfl, HO, HB⟩ := hrel
    have hsz := HB.out.size
    by_cases hlt : 3 * k + 2 < n
    · obtain ⟨rfl, hbw⟩ := ha (by omega)
      obtain ⟨x, y, z, e1, e2, e3, c0, c1, c2⟩ := HoldT.three (w := w1) HC.out HN.out (k := k) (by omega) hc
      rw [← HB.out.cell (p := ⟨b, o + k * 3, none⟩) hbw, Nat.mul_comm k 3] at c0
      rw [← HB.out.cell (p := ⟨b, o + k * 3 + 1, none⟩) hbw, Nat.mul_comm k 3, Nat.add_assoc] at c1
      rw [← HB.out.cell (p := ⟨b, o + k * 3 + 2, none⟩) hbw, Nat.mul_comm k 3, Nat.add_assoc] at c2
      obtain ⟨m, hm⟩ : ∃ m, 3 * k = m := ⟨_, rfl⟩
      rw [hm] at c0 c1 c2
      have HSN := Lib.hid (read_snoc k ls x y z e1 e2 e3)
      have hlen : (readD (ls.take (3 * k))).length ≤ 90000 := Nat.le_trans (read_len _ _ (Nat.le_refl _)) (by rw [List.length_take]; omega)
      obtain ⟨X, hX⟩ : ∃ X, bsA x = X := ⟨_, rfl⟩
      obtain ⟨Y, hY⟩ : ∃ Y, bsA y = Y := ⟨_, rfl⟩
      obtain ⟨Z, hZ⟩ : ∃ Z, bsA z = Z := ⟨_, rfl⟩
      have HX : Hid (X.data.toList = x) := Lib.hid (by rw [← hX, bytesOf])
      have HY : Hid (Y.data.toList = y) := Lib.hid (by rw [← hY, bytesOf])
      have HZ : Hid (Z.data.toList = z) := Lib.hid (by rw [← hZ, bytesOf])
      rw [hX] at c0
      rw [hY] at c1
      rw [hZ] at c2
      have hq := eqTL Z [58]
      rw [HZ.out] at hq
      have m0 : (0 : Int) ≤ (m : Int) := by omega
      have m1 : (m : Int) < (n : Int) := by omega
      have m2 : (m : Int) + 1 < (n : Int) := by omega
      have m3 : (m : Int) + 2 < (n : Int) := by omega
      have m4 : (0 : Int) ≤ (m : Int) + 1 := by omega
      have m5 : (0 : Int) ≤ (m : Int) + 2 := by omega
      have HM := Lib.hid hm
      rw [hm] at HO ⊢
      have hbr : b < wr.heap.size := by omega
      have al : ∀ o', ((wr.alloc o').cell? ⟨b, o + m, none⟩ = some (.string X) ∧ (wr.alloc o').cell? ⟨b, o + (m + 1), none⟩ = some (.string Y) ∧ (wr.alloc o').cell? ⟨b, o + (m + 2), none⟩ = some (.string Z)) := fun o' => by
        have hb := (Below.refl wr.heap.size wr).alloc (Nat.le_refl _) o'
        exact ⟨(hb.cell (p := ⟨b, o + m, none⟩) hbr).trans c0, (hb.cell (p := ⟨b, o + (m + 1), none⟩) hbr).trans c1, (hb.cell (p := ⟨b, o + (m + 2), none⟩) hbr).trans c2⟩
      obtain ⟨a0, a1, a2⟩ := al (.cells #[.string ⟨#[]⟩, .string ⟨#[]⟩, .string ⟨#[]⟩] 39)
      obtain ⟨g0, g1, g2⟩ := al (.cells #[.string X, .string Y, .string ⟨#[]⟩] 39)
      clear hX hY hZ hm e1 e2 e3 al
      go_wp2
      have w1' : IntKind.i64.wrap ((m : Int) + 1) = (m : Int) + 1 := IntWalk.i64_in _ (by omega)
      have w2' : ((m : Int) + 1).toNat = m + 1 := by omega
      have HO2 : Hid (∀ E : ByteArray, OwnD (wr.alloc (.cells #[.string X, .string Y, .string E] 39)).drew w1.heap.size _ (readD (ls.take m))) := Lib.hid (fun E => World.ownsRow.kept HO.out (grown_of ((Below.refl _ _).alloc (Nat.le_refl _) _).drew) (nn_of _))
      have hlen2 : (readD (ls.take m)).length ≤ 90000 := by rw [← HM.out]; exact hlen
      go_region
      clear w1' w2' hlen c0 c1 c2
      have w3' : IntKind.i64.wrap ((m : Int) + 2) = (m : Int) + 2 := IntWalk.i64_in _ (by omega)
      by_cases hz58 : z = [58]
      · rw [decide_eq_true hz58] at hq
        have HE : Hid ((⟨#[]⟩ : ByteArray).data.toList = (if z = [58] then [] else z)) := Lib.hid (by rw [if_pos hz58])
        clear hz58
        go_wp2_with (first
          | (at_builtin; refine wpList_append_own _ rfl _ _ 22 rfl w1.heap.size 39 i0 _ 3 48 Tryd.underlying22 hi hz0 hz1 hz2' rfl (by decide) _ _ _ rfl (World.ownsRow.alloc (HO2.out ⟨#[]⟩) _) ⟨wr.heap.size + 1, 0, none⟩ 1 1 [.string X, .string Y, .string ⟨#[]⟩] rfl rfl (by intro j u hj; match j, hj with | 0, hj => simp at hj; subst hj; simp [Addr.add] | 1, hj => simp at hj; subst hj; simp [Addr.add] | 2, hj => simp at hj; subst hj; simp [Addr.add]) (by intro u hu; simp at hu; rcases hu with rfl | rfl | rfl <;> rfl) (by unfold maxLen; omega) (by omega) (by simp; omega) ?_))
        intro v' w3 hown' hgrow _
        have HO3 : Hid (OwnD w3 w1.heap.size v' (readD (ls.take (3 * (k + 1))))) := Lib.hid (by rw [HSN.out]; rw [← HM.out] at hown'; exact OwnD.app HX.out HY.out HE.out hown')
        have HB3 : Hid (Below w1.heap.size w1 w3) := Lib.hid (OwnD.below (HB.out.alloc hsz _).drew (HO2.out ⟨#[]⟩) hgrow (Nat.le_refl _) (by simp; omega))
        clear hown' hgrow
        go_wp2
        go_roundw
        case rel => exact ⟨k + 1, by omega, by rw [show 3 * (k + 1) = m + 3 by have := HM.out; omega]; go_num, HO3, HB3⟩
        case measure => simp [intOf]; omega
      · rw [decide_eq_false hz58] at hq
        have HE : Hid ((Z : ByteArray).data.toList = (if z = [58] then [] else z)) := Lib.hid (by rw [if_neg hz58]; exact HZ.out)
        clear hz58
        go_wp2_with (first
          | (at_builtin; refine wpList_append_own _ rfl _ _ 22 rfl w1.heap.size 39 i0 _ 3 48 Tryd.underlying22 hi hz0 hz1 hz2' rfl (by decide) _ _ _ rfl (World.ownsRow.alloc (HO2.out Z) _) ⟨wr.heap.size + 1, 0, none⟩ 1 1 [.string X, .string Y, .string Z] rfl rfl (by intro j u hj; match j, hj with | 0, hj => simp at hj; subst hj; simp [Addr.add] | 1, hj => simp at hj; subst hj; simp [Addr.add] | 2, hj => simp at hj; subst hj; simp [Addr.add]) (by intro u hu; simp at hu; rcases hu with rfl | rfl | rfl <;> rfl) (by unfold maxLen; omega) (by omega) (by simp; omega) ?_))
        intro v' w3 hown' hgrow _
        have HO3 : Hid (OwnD w3 w1.heap.size v' (readD (ls.take (3 * (k + 1))))) := Lib.hid (by rw [HSN.out]; rw [← HM.out] at hown'; exact OwnD.app HX.out HY.out HE.out hown')
        have HB3 : Hid (Below w1.heap.size w1 w3) := Lib.hid (OwnD.below (HB.out.alloc hsz _).drew (HO2.out Z) hgrow (Nat.le_refl _) (by simp; omega))
        clear hown' hgrow
        go_wp2
        go_roundw
        case rel => exact ⟨k + 1, by omega, by rw [show 3 * (k + 1) = m + 3 by have := HM.out; omega]; go_num, HO3, HB3⟩
        case measure => simp [intOf]; omega
    · have HR : Hid (readD (ls.take (3 * k)) = readD ls) := Lib.hid (read_all _ ls k (Nat.le_refl _) (by rw [HN.out]; omega) (by rw [HN.out]; omega))
      rw [HR.out] at HO
      have HBW := Lib.hid (HB1.out.trans (HB.out.mono hsz1))
      have HH := Lib.hid HO.out.holds
      have PR := print9_ref _ (readD ls) HRL.out HSM.out wr HH.out
      unfold PrPost at PR
      obtain ⟨T, hT⟩ : ∃ T, T = bsA (printD (readD ls)).1 := ⟨_, rfl⟩
      obtain ⟨z, hz⟩ : ∃ z, z = (printD (readD ls)).2 := ⟨_, rfl⟩
      rw [← hT, ← hz] at PR
      have HTZ : Hid (printD (readD ls) = (T.data.toList, z)) := Lib.hid (by rw [hT, bytesOf, hz])
      have hq := eqT T s
      have hk2 : (n : Int) ≤ (3 * k : Nat) + 2 := by omega
      obtain ⟨m, hm⟩ : ∃ m, 3 * k = m := ⟨_, rfl⟩
      rw [hm] at hk2 ⊢
      have hmm : m ≤ 90000 := by omega
      have HPS : Hid (B = true → parseD s.data.toList = if printD (readD ls) = (s.data.toList, 0) then some (readD ls) else none) := Lib.hid (fun hB => by
        have := parseD_some ((HBB.out ls).2 ⟨hB, rfl⟩)
        rw [this])
      have HPN : Hid (B = false → parseD s.data.toList = none) := Lib.hid (fun hB => parseD_none (by
        cases hl : linesO s.data.toList with
        | none => rfl
        | some ls' => have := ((HBB.out ls').1 hl).1; rw [hB] at this; cases this))
      clear hT hz HR HO hlt hm hk
      cases B with
      | false =>
        have HX := Lib.hid (HPN.out rfl)
        clear HPS HPN HBB hq
        go_wp2_with (go_at_call 11; (with_reducible refine PR.mono ?_); rintro e w4 ⟨rfl, hb⟩; have HB4 := Lib.hid (HBW.out.trans (hb.mono HBW.out.size)); have HH4 := Lib.hid (HoldR.on HH.out hb); clear hb PR)
        go_ret2
        exact HBAD.out _ HX.out HB4.out
      | true =>
        have HPT := Lib.hid (HPS.out rfl)
        clear HPS HPN HBB
        by_cases hz0 : z = 0
        · subst hz0
          by_cases hts : T.data.toList = s.data.toList
          · rw [decide_eq_true hts] at hq
            have HX : Hid (parseD s.data.toList = some (readD ls)) := Lib.hid (by rw [HPT.out, if_pos (by rw [HTZ.out, hts])])
            clear hts
            go_wp2_with (go_at_call 11; (with_reducible refine PR.mono ?_); rintro e w4 ⟨rfl, hb⟩; have HB4 := Lib.hid (HBW.out.trans (hb.mono HBW.out.size)); have HH4 := Lib.hid (HoldR.on HH.out hb); clear hb PR)
            go_ret2
            exact HOK.out _ _ _ HX.out HH4.out HB4.out
          · rw [decide_eq_false hts] at hq
            have HX : Hid (parseD s.data.toList = none) := Lib.hid (by rw [HPT.out, if_neg (by rw [HTZ.out]; exact fun g => hts (Prod.mk.inj g).1)])
            clear hts
            go_wp2_with (go_at_call 11; (with_reducible refine PR.mono ?_); rintro e w4 ⟨rfl, hb⟩; have HB4 := Lib.hid (HBW.out.trans (hb.mono HBW.out.size)); have HH4 := Lib.hid (HoldR.on HH.out hb); clear hb PR)
            go_ret2
            exact HBAD.out _ HX.out HB4.out
        · have hzb : (z == 0) = false := by rw [beq_eq_false_iff_ne]; exact hz0
          have hzn : (z != 0) = true := by rw [bne, hzb]; rfl
          have HX : Hid (parseD s.data.toList = none) := Lib.hid (by rw [HPT.out, if_neg (by rw [HTZ.out]; exact fun g => hz0 (Prod.mk.inj g).2)])
          clear hz0 hq
          go_wp2_with (go_at_call 11; (with_reducible refine PR.mono ?_); rintro e w4 ⟨rfl, hb⟩; have HB4 := Lib.hid (HBW.out.trans (hb.mono HBW.out.size)); have HH4 := Lib.hid (HoldR.on HH.out hb); clear hb PR)
          go_ret2
          exact HBAD.out _ HX.out HB4.out
end Go.Proofs.YtgjnhnaccdmbjaaDoor
