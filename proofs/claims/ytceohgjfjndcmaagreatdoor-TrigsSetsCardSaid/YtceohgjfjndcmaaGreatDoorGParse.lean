/-
  The program's read of a line, and Parse of interests: what each returns; nothing old turns. Condition of Parse: LaidP. The program's Parse of interests: what it returns; nothing old turns. Condition: LaidP.
-/
import Derived.Test.YtceohgjfjndcmaaGreatDoorGPrint
import Derived.Test.YtceohgjfjndcmaaGreatDoorBoxV
import Derived.Test.YtceohgjfjndcmaaGreatDoorSPLines2
namespace Go.Proofs.YtceohgjfjndcmaaGreatDoor
open Go.RowKit
theorem cut_head {s : ByteArray} {c : UInt8} {X Y : ByteArray} {ok : Bool} (h : CutIs s c X Y ok) : X.data.toList = headC c s.data.toList ∧ Y.data.toList = tailC c s.data.toList := by
  rcases h with ⟨_, h, hX, hY⟩ | ⟨_, k, h, hk, rfl, rfl⟩
  · have hn : firstI c s.data.toList < 0 := by omega
    have := headC_no (firstI_neg.1 hn)
    rw [hX, hY]
    exact ⟨this.1.symm, this.2.symm⟩
  · obtain ⟨h1, h2⟩ := first_not h (by rw [← sizeOf]; exact hk)
    have e1 : (s.extract 0 k).data.toList = s.data.toList.take k := by rw [extL]; simp
    have e2 : (s.extract (k + 1) s.size).data.toList = s.data.toList.drop (k + 1) := by rw [extL, List.take_of_length_le (by rw [List.length_drop, ← sizeOf]; omega)]
    have := headC_at (c := c) (r := s.data.toList.drop (k + 1)) h1
    rw [← h2] at this
    rw [e1, e2]; exact ⟨this.1.symm, this.2.symm⟩
theorem cutNo_is (r : Bs) : cutNo r = (Lib.trimSuffix r noaw, Lib.hasSuffix r noaw) := by
  unfold cutNo Lib.trimSuffix Lib.hasSuffix
  by_cases h : noaw <:+ r
  · have h2 := List.isSuffixOf_iff_suffix.2 h
    rw [if_pos h, h2]; rfl
  · have h2 : noaw.isSuffixOf r = false := by
      cases g : noaw.isSuffixOf r
      · rfl
      · exact absurd (List.isSuffixOf_iff_suffix.1 g) h
    rw [if_neg h, h2]; rfl
theorem cutsuf_any (Y : ByteArray) (hs : Y.size ≤ 9223372036854775807) : ∃ (T : ByteArray) (k : Bool), (T = bsT (Lib.trimSuffix Y.data.toList noaw) ∧ k = Lib.hasSuffix Y.data.toList noaw) ∧
    ∀ W, Calls Tryz.prog 73 #[.string Y, .string ⟨#[47, 110, 111, 97, 119, 97, 105, 116]⟩] W fun e w' => e = .returned (.tuple #[.string T, .bool k]) ∧ W = w' :=
  ⟨_, _, ⟨rfl, rfl⟩, fun W => (Tryz.strings_CutSuffix Y ⟨#[47, 110, 111, 97, 119, 97, 105, 116]⟩ W hs).mono fun _ _ h => ⟨h.1, h.2.symm⟩⟩
def ReadI (s : Bs) (w : World) (e : Ending) (w' : World) : Prop := e = .returned (aggI (readI s)) ∧ Below w.heap.size w w'
set_option maxRecDepth 100000 in
set_option maxHeartbeats 4000000 in
theorem readI_any (s : ByteArray) (hs : s.size ≤ 90000) (w : World) : Calls Tryz.prog 41 #[.string s] w (ReadI s.data.toList w) := by
  have C1 := fun W => cut2_any s (by omega) 32 W
  have HB0 := Lib.hid ((Below.refl w.heap.size w).alloc (Nat.le_refl _) (.cells #[.string ⟨#[]⟩, .string ⟨#[]⟩, .bool false] 53))
  have HX0 := Lib.hid (Box3.new w (.string ⟨#[]⟩) (.string ⟨#[]⟩) (.bool false) 53)
  have HP : Hid (∀ (X Y : ByteArray) ok T k w', CutIs s 32 X Y ok → (T = bsT (Lib.trimSuffix Y.data.toList noaw) ∧ k = Lib.hasSuffix Y.data.toList noaw) → Below w.heap.size w w' → ReadI s.data.toList w (.returned (.agg #[.string X, .string T, .bool k])) w') := Lib.hid (fun X Y ok T k w' h ht hb => by
    obtain ⟨h1, h2⟩ := cut_head h
    obtain ⟨rfl, rfl⟩ := ht
    refine ⟨?_, hb⟩
    unfold aggI readI
    rw [cutNo_is, ← h2, strOf h1])
  have HLEN : Hid (∀ (X Y : ByteArray) ok, CutIs s 32 X Y ok → Y.size ≤ 9223372036854775807) := Lib.hid (fun X Y ok h => by
    have := (headC_len 32 s.data.toList).2
    rw [sizeOf, (cut_head h).2]; rw [sizeOf] at hs; omega)
  go_enter Tryz.func41, Tryz.ntmps41
  go_wp2_with (first
    | (go_at_call 75; (with_reducible refine (C1 _).mono ?_); rintro e w1 ⟨X, Y, ok, rfl, hcut, q, rfl⟩; obtain ⟨T, k, hTk, C2⟩ := cutsuf_any Y (HLEN.out _ _ _ hcut.out); have HTK := Lib.hid hTk; clear hTk; have HX1 := Lib.hid (HX0.out.on (belowQ (Below.refl _ _) q)); have HB1 := Lib.hid (belowQ HB0.out q); obtain ⟨r0, r1, r2, rf⟩ := HX1.out; have rf0 := rf 0; have rf1 := rf 1; have rf2 := rf 2; clear rf C1)
    | (go_at_call 73; (with_reducible refine (C2 _).mono ?_); rintro e w2 ⟨rfl, rfl⟩; clear C2))
  obtain ⟨k0, k1, k2⟩ := HX1.out.put (.string X) (.string T) (.bool k)
  exact bodyPost_ret (v := .agg #[.string X, .string T, .bool k]) (by simp [results, Tryz.results41, go_sem, k0, k1, k2]) rfl (HP.out _ _ _ _ _ _ hcut.out HTK.out (put3_below HB1.out (Nat.le_refl _) _ _ _))
end Go.Proofs.YtceohgjfjndcmaaGreatDoor
namespace Go.Proofs.YtceohgjfjndcmaaGreatDoor
open Go.RowKit
def PaPostI (s : Bs) (w : World) (e : Ending) (w' : World) : Prop := ∃ v z, e = .returned (.tuple #[v, .int .i64 z]) ∧ (∀ l, parseI s = some l → z = 0 ∧ HoldI w' v l) ∧ (parseI s = none → z = 2 ∧ v = .slice none 0 0) ∧ Below w.heap.size w w'
theorem cutNo_len (r : Bs) : (cutNo r).1.length ≤ r.length := by
  unfold cutNo; split
  · simp
  · exact Nat.le_refl _
theorem readI_small {ls : List Bs} (h : ∀ p ∈ ls, p.length ≤ 4000) : SmallI (ls.map readI) := fun x hx => by
  obtain ⟨p, hp, rfl⟩ := List.mem_map.1 hx
  have h1 := headC_len 32 p
  have h2 := cutNo_len (tailC 32 p)
  have h3 := h p hp
  exact ⟨Nat.le_trans h1.1 h3, by show (cutNo (tailC 32 p)).1.length ≤ 4000; omega⟩
theorem map_snoc {α β : Type} (f : α → β) {ls : List α} {k : Nat} {p : α} (h : ls[k]? = some p) : (ls.take (k + 1)).map f = (ls.take k).map f ++ [f p] := by
  rw [List.take_add_one, h, List.map_append]; rfl
theorem OwnI.one (l : List It) : ∀ u ∈ (l.map cellsI).flatten, u.oneCell' = true := fun u hu => by
  obtain ⟨r, hr, hu⟩ := List.mem_flatten.1 hu
  obtain ⟨x, _, rfl⟩ := List.mem_map.1 hr
  simp at hu
  rcases hu with rfl | rfl | rfl <;> rfl
set_option maxRecDepth 100000 in
set_option maxHeartbeats 16000000 in
theorem parseI_any (s : ByteArray) (hs : s.size ≤ 90000) (hp : ∀ p ∈ spl 10 s.data.toList, p.length ≤ 4000) (w : World) (hL : LaidP w) : Calls Tryz.prog 13 #[.string s] w (PaPostI s.data.toList w) := by
  have L := fun w => slines_any s hs w
  unfold PLinesPost at L
  have HBAD : Hid (∀ w', parseI s.data.toList = none → Below w.heap.size w w' → PaPostI s.data.toList w (.returned (.tuple #[.slice none 0 0, .int .i64 2])) w') := Lib.hid (fun w' h hb => ⟨_, 2, rfl, fun l hl => (by rw [h] at hl; cases hl), fun _ => ⟨rfl, rfl⟩, hb⟩)
  have HOK : Hid (∀ l v w', parseI s.data.toList = some l → HoldI w' v l → Below w.heap.size w w' → PaPostI s.data.toList w (.returned (.tuple #[v, .int .i64 0])) w') := Lib.hid (fun l v w' h h1 hb => ⟨v, 0, rfl, fun l' hl => (by rw [h] at hl; cases hl; exact ⟨rfl, h1⟩), fun hn => (by rw [h] at hn; cases hn), hb⟩)
  have HL := Lib.hid hL
  cases hlo : linesO s.data.toList with
  | none =>
    have L2 : ∀ w, Calls Tryz.prog 40 #[.string s] w fun e w' => e = .returned (.tuple #[.slice none 0 0, .int .i64 2]) ∧ Below w.heap.size w w' := fun w => (L w).mono fun e w' ⟨v, z, he, _, h2, hb⟩ => ⟨by rw [he, (h2 hlo).1, (h2 hlo).2], hb⟩
    have HN := Lib.hid (parseI_none hlo)
    clear L hlo hp
    go_enter Tryz.func13, Tryz.ntmps13
    go_wp2_with (go_at_call 40; refine (L2 _).mono ?_; rintro e w1 ⟨rfl, hb⟩; have HB := Lib.hid hb; clear hb)
    go_ret2
    exact HBAD.out _ HN.out HB.out
  | some ls =>
    have L2 : ∀ w, Calls Tryz.prog 40 #[.string s] w fun e w' => ∃ v, e = .returned (.tuple #[v, .int .i64 0]) ∧ HoldT w' v ls ∧ Below w.heap.size w w' := fun w => (L w).mono fun e w' ⟨v, z, he, h1, _, hb⟩ => ⟨v, by rw [he, (h1 ls hlo).1], (h1 ls hlo).2.holds, hb⟩
    have HPS := Lib.hid (parseI_some hlo)
    obtain ⟨hl1, hl2⟩ := lines_len hlo
    rw [← sizeOf] at hl1
    have HSM : Hid (SmallI (ls.map readI)) := Lib.hid (readI_small (fun p h => hp p (hl2 p h)))
    have HSL : Hid (∀ p ∈ ls, p.length ≤ 90000) := Lib.hid (fun p h => Nat.le_trans (hp p (hl2 p h)) (by omega))
    obtain ⟨i0, hi, hz0, hz1, hz2'⟩ := info_parts infoI
    obtain ⟨n, hN⟩ : ∃ n, ls.length = n := ⟨_, rfl⟩
    rw [hN] at hl1
    have HN := Lib.hid hN
    clear L hlo hp hl2 hN hL
    go_enter Tryz.func13, Tryz.ntmps13
    go_wp2_with (go_at_call 40; refine (L2 _).mono ?_; rintro e w1 ⟨v, rfl, hh, hb⟩; obtain ⟨a, c, b, o, rfl, hc, ha, hcell⟩ := hh; rw [HN.out] at hc ha ⊢; have HC := Lib.hid hcell; have HB1 := Lib.hid hb; clear hcell hb L2)
    have hsz1 := HB1.out.size
    go_loopw [6, 21] (fun u i wr => ∃ k : Nat, k ≤ n ∧ i = .int .i64 k ∧ Hid (OwnI wr w1.heap.size u ((ls.take k).map readI)) ∧ Hid (Below w1.heap.size w1 wr)) (fun _ i _ => n - (intOf i).toNat)
    case atStart => exact ⟨0, by omega, rfl, Lib.hid (OwnV.nil _ _ _ _), Lib.hid (Below.refl _ _)⟩
    case round =>
      obtain ⟨k, hk, rfl, HO, HB⟩ := hrel
      have hsz := HB.out.size
      by_cases hlt : k < n
      · obtain ⟨rfl, hbw⟩ := ha (by omega)
        obtain ⟨p, hp⟩ : ∃ p, ls[k]? = some p := ⟨_, List.getElem?_eq_getElem (by rw [HN.out]; exact hlt)⟩
        have c0 := HC.out k p hp
        rw [← HB.out.cell (p := ⟨b, o + k, none⟩) hbw] at c0
        have RD := fun W => readI_any ⟨p.toArray⟩ (by rw [sizeOf, bytesOf]; exact HSL.out p (List.mem_of_getElem? hp)) W
        unfold ReadI aggI at RD
        rw [bytesOf] at RD
        have HSN := Lib.hid (map_snoc readI hp)
        have hlen : ((ls.take k).map readI).length = k := by rw [List.length_map, List.length_take, HN.out]; omega
        obtain ⟨X, hX⟩ : ∃ X, bsT (readI p).1 = X := ⟨_, rfl⟩
        obtain ⟨Y, hY⟩ : ∃ Y, bsT (readI p).2.1 = Y := ⟨_, rfl⟩
        have HX : Hid (X.data.toList = (readI p).1) := Lib.hid (by rw [← hX, bytesOf])
        have HY : Hid (Y.data.toList = (readI p).2.1) := Lib.hid (by rw [← hY, bytesOf])
        rw [hX, hY] at RD
        obtain ⟨z, hz⟩ : ∃ z, (readI p).2.2 = z := ⟨_, rfl⟩
        rw [hz] at RD
        have HZ := Lib.hid hz
        have HLEN := Lib.hid hlen
        generalize (⟨p.toArray⟩ : ByteArray) = P at *
        clear hX hY hz hp hlen
        go_wp2_with (first
          | (go_at_call 41; (with_reducible refine (RD _).mono ?_); rintro e w2 ⟨rfl, hb⟩; have HB2 := Lib.hid (HB.out.trans (hb.mono HB.out.size)); have hz2 := HB2.out.size; have HO2 := Lib.hid (OwnV.on HO.out hb); clear hb RD)
          | (at_builtin; refine wpList_append_own _ rfl _ _ 22 rfl w1.heap.size 53 i0 _ 3 40 Tryz.underlying22 hi hz0 hz1 hz2' rfl (by decide) _ _ _ rfl (World.ownsRow.alloc HO2.out.2 _) ⟨w2.heap.size, 0, none⟩ 1 1 [.string X, .string Y, .bool z] rfl rfl ?c1 ?c2 ?c3 ?c4 ?c5 ?_))
        case c1 =>
          intro j u hj
          match j, hj with
          | 0, hj => simp at hj; subst hj; simp [Addr.add]
          | 1, hj => simp at hj; subst hj; simp [Addr.add]
          | 2, hj => simp at hj; subst hj; simp [Addr.add]
        case c2 => intro u hu; simp at hu; rcases hu with rfl | rfl | rfl <;> rfl
        case c3 => rw [List.length_map, HLEN.out]; unfold maxLen; omega
        case c4 => rw [List.length_map, HLEN.out]; omega
        case c5 => simp; omega
        · intro v' w3 hown' hgrow _
          have HO3 : Hid (OwnI w3 w1.heap.size v' ((ls.take (k + 1)).map readI)) := Lib.hid (by rw [HSN.out]; exact OwnI.app HX.out HY.out (by rw [HZ.out]; simpa using hown'))
          have HB3 : Hid (Below w1.heap.size w1 w3) := Lib.hid (OwnV.below HB2.out HO2.out hgrow (Nat.le_refl _) hz2)
          clear hown' hgrow
          go_wp2
          go_roundw
          case rel => exact ⟨k + 1, by omega, by go_num, HO3, HB3⟩
          case measure => simp [intOf]; omega
      · obtain rfl : k = n := by omega
        have HR : Hid ((ls.take k).map readI = ls.map readI) := Lib.hid (by rw [List.take_of_length_le (by rw [HN.out]; omega)])
        rw [HR.out] at HO
        have HBW := Lib.hid (HB1.out.trans (HB.out.mono hsz1))
        have HH := Lib.hid HO.out.holds
        have PR := printI_any _ (ls.map readI) (by rw [List.length_map, HN.out]; omega) HSM.out wr (HL.out.on HBW.out) HH.out
        unfold PrPostI at PR
        obtain ⟨T, hT⟩ : ∃ T, T = bsT (printI (ls.map readI)).1 := ⟨_, rfl⟩
        obtain ⟨z, hz⟩ : ∃ z, z = (printI (ls.map readI)).2 := ⟨_, rfl⟩
        rw [← hT, ← hz] at PR
        have HTZ : Hid (printI (ls.map readI) = (T.data.toList, z)) := Lib.hid (by rw [hT, bytesOf, hz])
        have hq := eqT T s
        clear hT hz HR HO hlt
        by_cases hz0 : z = 0
        · subst hz0
          by_cases hts : T.data.toList = s.data.toList
          · rw [decide_eq_true hts] at hq
            have HX : Hid (parseI s.data.toList = some (ls.map readI)) := Lib.hid (by rw [HPS.out, if_pos (by rw [HTZ.out, hts])])
            clear hts
            go_wp2_with (go_at_call 9; (with_reducible refine PR.mono ?_); rintro e w4 ⟨rfl, hb⟩; have HB4 := Lib.hid (HBW.out.trans (hb.mono HBW.out.size)); have HH4 := Lib.hid (HoldV.on HH.out hb); clear hb PR)
            go_ret2
            exact HOK.out _ _ _ HX.out HH4.out HB4.out
          · rw [decide_eq_false hts] at hq
            have HX : Hid (parseI s.data.toList = none) := Lib.hid (by rw [HPS.out, if_neg (by rw [HTZ.out]; exact fun g => hts (Prod.mk.inj g).1)])
            clear hts
            go_wp2_with (go_at_call 9; (with_reducible refine PR.mono ?_); rintro e w4 ⟨rfl, hb⟩; have HB4 := Lib.hid (HBW.out.trans (hb.mono HBW.out.size)); clear hb PR)
            go_ret2
            exact HBAD.out _ HX.out HB4.out
        · have hzb : (z == 0) = false := by rw [beq_eq_false_iff_ne]; exact hz0
          have hzn : (z != 0) = true := by rw [bne, hzb]; rfl
          have HX : Hid (parseI s.data.toList = none) := Lib.hid (by rw [HPS.out, if_neg (by rw [HTZ.out]; exact fun g => hz0 (Prod.mk.inj g).2)])
          clear hz0 hq
          go_wp2_with (go_at_call 9; (with_reducible refine PR.mono ?_); rintro e w4 ⟨rfl, hb⟩; have HB4 := Lib.hid (HBW.out.trans (hb.mono HBW.out.size)); clear hb PR)
          go_ret2
          exact HBAD.out _ HX.out HB4.out
end Go.Proofs.YtceohgjfjndcmaaGreatDoor
