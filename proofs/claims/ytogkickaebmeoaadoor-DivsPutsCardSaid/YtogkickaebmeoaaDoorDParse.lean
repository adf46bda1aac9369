/-
  The program's Parse of diversions: what it returns; nothing old turns. Condition: LaidP.
-/
import Derived.Test.YtogkickaebmeoaaDoorDRead
namespace Go.Proofs.YtogkickaebmeoaaDoor
open Go.RowKit
theorem grown_of {w w' : World} (h : Below w.heap.size w w') : w.grownBy w' none := ⟨h.os, h.tape, h.output, h.size, fun k hk _ => h.block k hk⟩
theorem nn_of (o : Option Nat) : o = none ∨ o ≠ none := by cases o <;> simp
theorem HoldT.three {w : World} {b o n : Nat} {c : Nat} {ls : List Bs} (hcell : ∀ (j : Nat) l, ls[j]? = some l → w.cell? ⟨b, o + j, none⟩ = some (.string ⟨l.toArray⟩)) {k : Nat} (hn : ls.length = n) (hk : k * 3 + 2 < n) (_ : n ≤ c) :
    ∃ x y z : Bs, ls[3 * k]? = some x ∧ ls[3 * k + 1]? = some y ∧ ls[3 * k + 2]? = some z ∧ w.cell? ⟨b, o + k * 3, none⟩ = some (.string (bsA x)) ∧ w.cell? ⟨b, o + k * 3 + 1, none⟩ = some (.string (bsA y)) ∧ w.cell? ⟨b, o + k * 3 + 2, none⟩ = some (.string (bsA z)) := by
  obtain ⟨x, hx⟩ : ∃ x, ls[k * 3]? = some x := ⟨_, List.getElem?_eq_getElem (by omega)⟩
  obtain ⟨y, hy⟩ : ∃ y, ls[k * 3 + 1]? = some y := ⟨_, List.getElem?_eq_getElem (by omega)⟩
  obtain ⟨z, hz⟩ : ∃ z, ls[k * 3 + 2]? = some z := ⟨_, List.getElem?_eq_getElem (by omega)⟩
  refine ⟨x, y, z, by rw [Nat.mul_comm]; exact hx, by rw [Nat.mul_comm]; exact hy, by rw [Nat.mul_comm]; exact hz, hcell _ _ hx, ?_, ?_⟩
  · rw [Nat.add_assoc]; exact hcell _ _ hy
  · rw [Nat.add_assoc]; exact hcell _ _ hz
def PaPost (s : Bs) (w : World) (e : Ending) (w' : World) : Prop := ∃ v z, e = .returned (.tuple #[v, .int .i64 z]) ∧ (∀ l, parseD s = some l → z = 0 ∧ HoldD w' v l) ∧ (parseD s = none → z = 2 ∧ v = .slice none 0 0) ∧ Below w.heap.size w w'
theorem parseD_none {s : Bs} (h : linesO s = none) : parseD s = none := by unfold parseD; rw [h]; rfl
open Classical in
theorem parseD_some {s : Bs} {ls : List Bs} (h : linesO s = some ls) : parseD s = if printD (readD ls) = (s, 0) then some (readD ls) else none := by
  unfold parseD
  rw [h, Option.bind_some]
  by_cases hz : checkD (readD ls) = 0
  · rw [printD_ok hz]
    by_cases ht : textD (readD ls) = s
    · rw [if_pos ⟨hz, ht⟩, if_pos (by rw [ht])]
    · rw [if_neg (fun g => ht g.2), if_neg (fun g => ht (Prod.mk.inj g).1)]
  · rw [printD_no hz, if_neg (fun g => hz g.1), if_neg (fun g => hz (Prod.mk.inj g).2)]
theorem lines_len {s : Bs} {ls : List Bs} (h : linesO s = some ls) : ls.length ≤ s.length ∧ ∀ p ∈ ls, p ∈ spl 10 s := by
  unfold linesO at h
  split at h
  · cases h
    have := spl_len 10 s
    exact ⟨by rw [List.length_dropLast]; omega, fun p hp => (List.dropLast_sublist _).subset hp⟩
  · cases h
set_option maxRecDepth 100000 in
set_option maxHeartbeats 16000000 in
theorem parse9_any (s : ByteArray) (hs : s.size ≤ 90000) (hp : ∀ p ∈ spl 10 s.data.toList, p.length ≤ 4000) (w : World) (hL : LaidP w) : Calls Tryd.prog 66 #[.string s] w (PaPost s.data.toList w) := by
  have L := fun w => slines_any s hs w
  unfold PLinesPost at L
  have HBAD : Hid (∀ w', parseD s.data.toList = none → Below w.heap.size w w' → PaPost s.data.toList w (.returned (.tuple #[.slice none 0 0, .int .i64 2])) w') := Lib.hid (fun w' h hb => ⟨_, 2, rfl, fun l hl => (by rw [h] at hl; cases hl), fun _ => ⟨rfl, rfl⟩, hb⟩)
  have HOK : Hid (∀ l v w', parseD s.data.toList = some l → HoldD w' v l → Below w.heap.size w w' → PaPost s.data.toList w (.returned (.tuple #[v, .int .i64 0])) w') := Lib.hid (fun l v w' h h1 hb => ⟨v, 0, rfl, fun l' hl => (by rw [h] at hl; cases hl; exact ⟨rfl, h1⟩), fun hn => (by rw [h] at hn; cases hn), hb⟩)
  have HL := Lib.hid hL
  cases hlo : linesO s.data.toList with
  | none =>
    have L2 : ∀ w, Calls Tryd.prog 53 #[.string s] w fun e w' => e = .returned (.tuple #[.slice none 0 0, .int .i64 2]) ∧ Below w.heap.size w w' := fun w => (L w).mono fun e w' ⟨v, z, he, _, h2, hb⟩ => ⟨by rw [he, (h2 hlo).1, (h2 hlo).2], hb⟩
    have HN := Lib.hid (parseD_none hlo)
    clear L hlo hp
    go_enter Tryd.func66, Tryd.ntmps66
    go_wp2_with (go_at_call 53; refine (L2 _).mono ?_; rintro e w1 ⟨rfl, hb⟩; have HB := Lib.hid hb; clear hb)
    go_ret2
    exact HBAD.out _ HN.out HB.out
  | some ls =>
    have L2 : ∀ w, Calls Tryd.prog 53 #[.string s] w fun e w' => ∃ v, e = .returned (.tuple #[v, .int .i64 0]) ∧ HoldT w' v ls ∧ Below w.heap.size w w' := fun w => (L w).mono fun e w' ⟨v, z, he, h1, _, hb⟩ => ⟨v, by rw [he, (h1 ls hlo).1], (h1 ls hlo).2.holds, hb⟩
    have HPS := Lib.hid (parseD_some hlo)
    obtain ⟨hl1, hl2⟩ := lines_len hlo
    rw [← sizeOf] at hl1
    have HSM : Hid (SmallD (readD ls)) := Lib.hid (fun x hx => read_sizes 4000 _ ls (Nat.le_refl _) (fun p h => hp p (hl2 p h)) x hx)
    have HRL : Hid ((readD ls).length ≤ 90000) := Lib.hid (Nat.le_trans (read_len _ ls (Nat.le_refl _)) (by omega))
    obtain ⟨i0, hi, hz0, hz1, hz2'⟩ := info_parts infoD
    obtain ⟨n, hN⟩ : ∃ n, ls.length = n := ⟨_, rfl⟩
    rw [hN] at hl1
    have HN := Lib.hid hN
    obtain ⟨d, hd1, hd2, hd3⟩ : ∃ d : Nat, (n : Int) / 3 = (d : Int) ∧ 3 * d ≤ n ∧ n < 3 * d + 3 := ⟨n / 3, by omega, by omega, by omega⟩
    have HD3 := Lib.hid hd3
    clear L hlo hp hl2 hN hL
    go_enter Tryd.func66, Tryd.ntmps66
    go_wp2_with (go_at_call 53; refine (L2 _).mono ?_; rintro e w1 ⟨v, rfl, hh, hb⟩; obtain ⟨a, c, b, o, rfl, hc, ha, hcell⟩ := hh; rw [HN.out] at hc ha ⊢; have HC := Lib.hid hcell; have HB1 := Lib.hid hb; clear hcell hb L2)
    have hsz1 := HB1.out.size
    clear hd1
    go_loopw [6, 21] (fun u i wr => ∃ k : Nat, k ≤ d ∧ i = .int .i64 k ∧ Hid (OwnD wr w1.heap.size u (readD (ls.take (3 * k)))) ∧ Hid (Below w1.heap.size w1 wr)) (fun _ i _ => d - (intOf i).toNat)
    case atStart => exact ⟨0, by omega, rfl, Lib.hid (OwnD.nil _ _), Lib.hid (Below.refl _ _)⟩
    case round =>
      obtain ⟨k, hk, rfl, HO, HB⟩ := hrel
      have hsz := HB.out.size
      by_cases hlt : k < d
      · obtain ⟨rfl, hbw⟩ := ha (by omega)
        obtain ⟨x, y, z, e1, e2, e3, c0, c1, c2⟩ := HoldT.three (w := w1) HC.out HN.out (k := k) (by omega) hc
        rw [← HB.out.cell (p := ⟨b, o + k * 3, none⟩) hbw] at c0
        rw [← HB.out.cell (p := ⟨b, o + k * 3 + 1, none⟩) hbw] at c1
        rw [← HB.out.cell (p := ⟨b, o + k * 3 + 2, none⟩) hbw] at c2
        have RD := read9_any b (o + k * 3) (n - k * 3) (c - k * 3) (by omega) (by omega) (bsA x) (bsA y) (bsA z) wr c0 c1 c2
        unfold ReadPost at RD
        have HSN := Lib.hid (read_snoc k ls x y z e1 e2 e3)
        have hlen : (readD (ls.take (3 * k))).length ≤ 90000 := Nat.le_trans (read_len _ _ (Nat.le_refl _)) (by rw [List.length_take]; omega)
        obtain ⟨E, hE⟩ : ∃ E : ByteArray, (if (bsA z).data.toList = [58] then ⟨#[]⟩ else bsA z) = E := ⟨_, rfl⟩
        rw [hE] at RD
        have HE : Hid (E.data.toList = (if z = [58] then [] else z)) := Lib.hid (by
          rw [← hE, bytesOf]
          by_cases g : z = [58]
          · rw [if_pos g, if_pos g]
          · rw [if_neg g, if_neg g, bytesOf])
        obtain ⟨X, hX⟩ : ∃ X, bsA x = X := ⟨_, rfl⟩
        obtain ⟨Y, hY⟩ : ∃ Y, bsA y = Y := ⟨_, rfl⟩
        have HX : Hid (X.data.toList = x) := Lib.hid (by rw [← hX, bytesOf])
        have HY : Hid (Y.data.toList = y) := Lib.hid (by rw [← hY, bytesOf])
        rw [hX, hY] at RD
        clear hX hY hE c0 c1 c2 e1 e2 e3
        have k0 : (0 : Int) ≤ (k : Int) * 3 := by omega
        have k1 : (k : Int) * 3 ≤ (n : Int) := by omega
        have k2 : k * 3 ≤ n := by omega
        have k3 : ¬ c = k * 3 := by omega
        have k4 : k * 3 ≤ c := by omega
        go_wp2_with (first
          | (go_at_call 90; (with_reducible refine RD.mono ?_); rintro e w2 ⟨rfl, hb⟩; have HB2 := Lib.hid (HB.out.trans (hb.mono HB.out.size)); have hz2 := HB2.out.size; have HO2 := Lib.hid (World.ownsRow.kept HO.out (grown_of hb) (nn_of _)); clear hb RD)
          | (at_builtin; refine wpList_append_own _ rfl _ _ 52 rfl w1.heap.size 54 i0 _ 3 48 Tryd.underlying52 hi hz0 hz1 hz2' rfl (by decide) _ _ _ rfl (World.ownsRow.alloc HO2.out _) ⟨w2.heap.size, 0, none⟩ 1 1 [.string X, .string Y, .string E] rfl rfl ?c1 ?c2 ?c3 ?c4 ?c5 ?_))
        case c1 =>
          intro j u hj
          match j, hj with
          | 0, hj => simp at hj; subst hj; simp [Addr.add]
          | 1, hj => simp at hj; subst hj; simp [Addr.add]
          | 2, hj => simp at hj; subst hj; simp [Addr.add]
        case c2 => intro u hu; simp at hu; rcases hu with rfl | rfl | rfl <;> rfl
        case c3 => unfold maxLen; omega
        case c4 => omega
        case c5 => simp; omega
        · intro v' w3 hown' hgrow _
          have HO3 : Hid (OwnD w3 w1.heap.size v' (readD (ls.take (3 * (k + 1))))) := Lib.hid (by rw [HSN.out]; exact OwnD.app HX.out HY.out HE.out hown')
          have HB3 : Hid (Below w1.heap.size w1 w3) := Lib.hid (OwnD.below HB2.out HO2.out hgrow (Nat.le_refl _) hz2)
          clear hown' hgrow
          go_wp2
          go_roundw
          case rel => exact ⟨k + 1, by omega, by go_num, HO3, HB3⟩
          case measure => simp [intOf]; omega
      · obtain rfl : k = d := by omega
        have HR : Hid (readD (ls.take (3 * k)) = readD ls) := Lib.hid (read_all _ ls k (Nat.le_refl _) (by rw [HN.out]; omega) (by rw [HN.out]; exact HD3.out))
        rw [HR.out] at HO
        have HBW := Lib.hid (HB1.out.trans (HB.out.mono hsz1))
        have HH := Lib.hid HO.out.holds
        have PR := print9_any _ (readD ls) HRL.out HSM.out wr (HL.out.on HBW.out) HH.out
        unfold PrPost at PR
        obtain ⟨T, hT⟩ : ∃ T, T = bsA (printD (readD ls)).1 := ⟨_, rfl⟩
        obtain ⟨z, hz⟩ : ∃ z, z = (printD (readD ls)).2 := ⟨_, rfl⟩
        rw [← hT, ← hz] at PR
        have HTZ : Hid (printD (readD ls) = (T.data.toList, z)) := Lib.hid (by rw [hT, bytesOf, hz])
        have hq := eqT T s
        clear hT hz HR HO hlt
        by_cases hz0 : z = 0
        · subst hz0
          by_cases hts : T.data.toList = s.data.toList
          · rw [decide_eq_true hts] at hq
            have HX : Hid (parseD s.data.toList = some (readD ls)) := Lib.hid (by rw [HPS.out, if_pos (by rw [HTZ.out, hts])])
            clear hts
            go_wp2_with (go_at_call 65; (with_reducible refine PR.mono ?_); rintro e w4 ⟨rfl, hb⟩; have HB4 := Lib.hid (HBW.out.trans (hb.mono HBW.out.size)); have HH4 := Lib.hid (HoldR.on HH.out hb); clear hb PR)
            go_ret2
            exact HOK.out _ _ _ HX.out HH4.out HB4.out
          · rw [decide_eq_false hts] at hq
            have HX : Hid (parseD s.data.toList = none) := Lib.hid (by rw [HPS.out, if_neg (by rw [HTZ.out]; exact fun g => hts (Prod.mk.inj g).1)])
            clear hts
            go_wp2_with (go_at_call 65; (with_reducible refine PR.mono ?_); rintro e w4 ⟨rfl, hb⟩; have HB4 := Lib.hid (HBW.out.trans (hb.mono HBW.out.size)); clear hb PR)
            go_ret2
            exact HBAD.out _ HX.out HB4.out
        · have hzb : (z == 0) = false := by rw [beq_eq_false_iff_ne]; exact hz0
          have hzn : (z != 0) = true := by rw [bne, hzb]; rfl
          have HX : Hid (parseD s.data.toList = none) := Lib.hid (by rw [HPS.out, if_neg (by rw [HTZ.out]; exact fun g => hz0 (Prod.mk.inj g).2)])
          clear hz0 hq
          go_wp2_with (go_at_call 65; (with_reducible refine PR.mono ?_); rintro e w4 ⟨rfl, hb⟩; have HB4 := Lib.hid (HBW.out.trans (hb.mono HBW.out.size)); clear hb PR)
          go_ret2
          exact HBAD.out _ HX.out HB4.out
end Go.Proofs.YtogkickaebmeoaaDoor
