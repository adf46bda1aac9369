/-
  The program's Parse of selections: what it returns; nothing old turns. Condition: LaidP. cellarerlaw30's few and told, the reference's Same of equal lists, awake: what each returns; nothing old turns. Condition of awake: LaidP.
-/
import Derived.Test.YtmfmohbcehkooaaGreatDoorYPrint
import Derived.Test.YtmfmohbcehkooaaGreatDoorSPLines2
namespace Go.Proofs.YtmfmohbcehkooaaGreatDoor
open Go.RowKit
def PaPostY (s : Bs) (w : World) (e : Ending) (w' : World) : Prop := ∃ v z, e = .returned (.tuple #[v, .int .i64 z]) ∧ (∀ l, parseY s = some l → z = 0 ∧ HoldY w' v l) ∧ (parseY s = none → z = 2 ∧ v = .slice none 0 0) ∧ Below w.heap.size w w'
theorem take_mapY {ls : List Bs} {k : Nat} {p : Bs} (h : ls[k]? = some p) : (ls.take (k + 1)).map rdY = (ls.take k).map rdY ++ [rdY p] := by
  rw [List.take_add_one, h, List.map_append]; rfl
set_option maxRecDepth 100000 in
set_option maxHeartbeats 16000000 in
theorem parseY_any (s : ByteArray) (hs : s.size ≤ 90000) (hp : ∀ p ∈ spl 10 s.data.toList, p.length ≤ 4000) (w : World) (hL : LaidP w) : Calls Tryz.prog 28 #[.string s] w (PaPostY s.data.toList w) := by
  have L := fun w => slines_any s hs w
  unfold PLinesPost at L
  have HBAD : Hid (∀ w', parseY s.data.toList = none → Below w.heap.size w w' → PaPostY s.data.toList w (.returned (.tuple #[.slice none 0 0, .int .i64 2])) w') := Lib.hid (fun w' h hb => ⟨_, 2, rfl, fun l hl => (by rw [h] at hl; cases hl), fun _ => ⟨rfl, rfl⟩, hb⟩)
  have HOK : Hid (∀ (l : List Sl) v w', parseY s.data.toList = some l → HoldY w' v l → Below w.heap.size w w' → PaPostY s.data.toList w (.returned (.tuple #[v, .int .i64 0])) w') := Lib.hid (fun l v w' h h1 hb => ⟨v, 0, rfl, fun l' hl => (by rw [h] at hl; cases hl; exact ⟨rfl, h1⟩), fun hn => (by rw [h] at hn; cases hn), hb⟩)
  have HL := Lib.hid hL
  cases hlo : linesO s.data.toList with
  | none =>
    have L2 : ∀ w, Calls Tryz.prog 57 #[.string s] w fun e w' => e = .returned (.tuple #[.slice none 0 0, .int .i64 2]) ∧ Below w.heap.size w w' := fun w => (L w).mono fun e w' ⟨v, z, he, _, h2, hb⟩ => ⟨by rw [he, (h2 hlo).1, (h2 hlo).2], hb⟩
    have HN := Lib.hid (parseY_none hlo)
    clear L hlo hp hL
    go_enter Tryz.func28, Tryz.ntmps28
    go_wp2_with (go_at_call 57; refine (L2 _).mono ?_; rintro e w1 ⟨rfl, hb⟩; have HB := Lib.hid hb; clear hb)
    go_ret2
    exact HBAD.out _ HN.out HB.out
  | some ls =>
    have L2 : ∀ w, Calls Tryz.prog 57 #[.string s] w fun e w' => ∃ v, e = .returned (.tuple #[v, .int .i64 0]) ∧ HoldT w' v ls ∧ Below w.heap.size w w' := fun w => (L w).mono fun e w' ⟨v, z, he, h1, _, hb⟩ => ⟨v, by rw [he, (h1 ls hlo).1], (h1 ls hlo).2.holds, hb⟩
    have HPS := Lib.hid (parseY_some hlo)
    obtain ⟨hl1, hl2⟩ := lines_len hlo
    rw [← sizeOf] at hl1
    have HSL : Hid (∀ p ∈ ls, p.length ≤ 4000) := Lib.hid (fun p h => hp p (hl2 p h))
    obtain ⟨i0, hi, hz0, hz1, hz2'⟩ := info_parts infoY
    obtain ⟨n, hN⟩ : ∃ n, ls.length = n := ⟨_, rfl⟩
    rw [hN] at hl1
    have HN := Lib.hid hN
    clear L hlo hp hl2 hN hL
    go_enter Tryz.func28, Tryz.ntmps28
    go_wp2_with (go_at_call 57; refine (L2 _).mono ?_; rintro e w1 ⟨v, rfl, hh, hb⟩; obtain ⟨a, c, b, o, rfl, hc, ha, hcell⟩ := hh; rw [HN.out] at hc ha ⊢; have HC := Lib.hid hcell; have HB1 := Lib.hid hb; clear hcell hb L2)
    have hsz1 := HB1.out.size
    go_loopw [6, 21] (fun u i wr => ∃ (k : Nat) (xs : List Sl), k ≤ n ∧ i = .int .i64 k ∧ xs.length = k ∧ Hid ((ls.take k).map rdY = xs) ∧ Hid (OwnY 55 wr w1.heap.size u xs) ∧ Hid (Below w1.heap.size w1 wr)) (fun _ i _ => n - (intOf i).toNat)
    case atStart => exact ⟨0, [], by omega, rfl, rfl, Lib.hid rfl, Lib.hid (OwnV.nil _ _ _ _), Lib.hid (Below.refl _ _)⟩
    case round =>
      obtain ⟨k, xs, hk, rfl, hxl, HX, HO, HB⟩ := hrel
      have hsz := HB.out.size
      by_cases hlt : k < n
      · obtain ⟨rfl, hbw⟩ := ha (by omega)
        obtain ⟨p, hp⟩ : ∃ p, ls[k]? = some p := ⟨_, List.getElem?_eq_getElem (by rw [HN.out]; exact hlt)⟩
        have c0 : w1.cell? ⟨b, o + k, none⟩ = some (.string (bsT p)) := HC.out k p hp
        rw [← HB.out.cell (p := ⟨b, o + k, none⟩) hbw] at c0
        have hpl := HSL.out p (List.mem_of_getElem? hp)
        have RD : Calls Tryz.prog 58 #[.string (bsT p)] wr fun e w' => e = .returned (aggY (rdY p)) ∧ Below wr.heap.size wr w' := by
          have := readY_any (bsT p) (by rw [sizeOf, bytesOf]; omega) wr
          unfold ReadYP at this
          rwa [bytesOf] at this
        have HX2 : Hid ((ls.take (k + 1)).map rdY = xs ++ [rdY p]) := Lib.hid (by rw [take_mapY hp, HX.out])
        generalize rdY p = x at *
        obtain ⟨q0, q1, q2⟩ := x
        unfold aggY at RD
        dsimp only at RD
        generalize bsT p = P at *
        obtain ⟨X, hX⟩ : ∃ X, bsT q0 = X := ⟨_, rfl⟩
        obtain ⟨U, hU⟩ : ∃ U, bsT q2 = U := ⟨_, rfl⟩
        have HXX : Hid (X.data.toList = q0) := Lib.hid (by rw [← hX, bytesOf])
        have HUU : Hid (U.data.toList = q2) := Lib.hid (by rw [← hU, bytesOf])
        rw [hX, hU] at RD
        clear hp hX hU HX
        obtain ⟨ua, uc, hu⟩ := OwnV.form HO.out
        rw [List.length_map, hxl] at hu
        subst hu
        have HOK2 : Hid (wr.ownsRow w1.heap.size 55 3 (.slice ua k uc) k (xs.map cellsY).flatten) := Lib.hid (by have := HO.out.2; rw [List.length_map, hxl] at this; exact this)
        have HAPP : Hid (∀ v' w3, w3.ownsRow w1.heap.size 55 3 v' (k + 1) ((xs.map cellsY).flatten ++ [.string X, .bool q1, .string U]) → OwnY 55 w3 w1.heap.size v' (xs ++ [(q0, q1, q2)])) := Lib.hid (fun v' w3 h => OwnY.app (x := (q0, q1, q2)) HXX.out HUU.out (by rw [hxl]; exact h))
        have HXL2 : Hid ((xs ++ [(q0, q1, q2)]).length = k + 1) := Lib.hid (by rw [List.length_append, hxl]; rfl)
        clear hxl HO hpl
        go_wp2_with (first
          | (go_at_call 58; (with_reducible refine RD.mono ?_); rintro e w2 ⟨rfl, hb⟩; have HB2 := Lib.hid (HB.out.trans (hb.mono hsz)); have hz2 := HB2.out.size; have HO2 : Hid (w2.ownsRow w1.heap.size 55 3 (.slice ua k uc) k (xs.map cellsY).flatten) := Lib.hid (World.ownsRow.kept HOK2.out (grownV hb) (by cases Value.ownBlock _ <;> simp)); clear hb RD)
          | (at_builtin; refine wpList_append_own _ rfl _ _ 49 rfl w1.heap.size 55 i0 _ 3 40 Tryz.underlying49 hi hz0 hz1 hz2' rfl (by decide) _ _ _ rfl (World.ownsRow.alloc HO2.out _) ⟨w2.heap.size, 0, none⟩ 1 1 [.string X, .bool q1, .string U] rfl rfl ?c1 ?c2 ?c3 ?c4 ?c5 ?_))
        case c1 =>
          intro j u hj
          obtain ⟨x0, x1, x2⟩ := boxV3 w2 (.string X) (.bool q1) (.string U) 55
          rw [Addr.add_lit]
          match j, hj with
          | 0, hj => simp at hj; subst hj; exact x0
          | 1, hj => simp at hj; subst hj; exact x1
          | 2, hj => simp at hj; subst hj; exact x2
        case c2 => intro u hu; simp at hu; rcases hu with rfl | rfl | rfl <;> rfl
        case c3 => unfold maxLen; omega
        case c4 => omega
        case c5 => simp; omega
        · intro v' w3 hown' hgrow _
          have HO3 := Lib.hid (HAPP.out _ _ hown')
          have HB3 : Hid (Below w1.heap.size w1 w3) := Lib.hid ((HB2.out.alloc hz2 _).grown hgrow (by simp; omega) (fun k hk => by have := (World.ownsRow.lt HO2.out k hk).1; omega))
          clear hown' hgrow
          go_wp2
          go_roundw
          case rel => exact ⟨k + 1, _, by omega, by go_num, HXL2.out, HX2, HO3, HB3⟩
          case measure => simp [intOf]; omega
      · obtain rfl : k = n := by omega
        have HR : Hid (ls.map rdY = xs) := Lib.hid (by have := HX.out; rw [List.take_of_length_le (by rw [HN.out]; omega)] at this; exact this)
        have HBW := Lib.hid (HB1.out.trans (HB.out.mono hsz1))
        have HH := Lib.hid HO.out.holds
        have PR := printY_any _ xs (by omega) (fun x hx => by
          rw [← HR.out] at hx
          obtain ⟨p, hp, rfl⟩ := List.mem_map.1 hx
          have h1 := rdY_len p
          have h2 := HSL.out p hp
          omega) wr (HL.out.on HBW.out) HH.out
        unfold PrPostY at PR
        obtain ⟨ua, uc, hu⟩ := OwnV.form HO.out
        rw [List.length_map, hxl] at hu
        subst hu
        obtain ⟨T, hT⟩ : ∃ T, T = bsT (printY xs).1 := ⟨_, rfl⟩
        obtain ⟨z, hz⟩ : ∃ z, z = (printY xs).2 := ⟨_, rfl⟩
        rw [← hT, ← hz] at PR
        have HTZ : Hid (printY xs = (T.data.toList, z)) := Lib.hid (by rw [hT, bytesOf, hz])
        have hq := eqT T s
        have HPX : Hid (parseY s.data.toList = if (T.data.toList, z) = (s.data.toList, 0) then some xs else none) := Lib.hid (by rw [HPS.out, HR.out, HTZ.out])
        clear hT hz HO hlt HX hxl
        by_cases hz0 : z = 0
        · subst hz0
          by_cases hts : T.data.toList = s.data.toList
          · rw [decide_eq_true hts] at hq
            have HX : Hid (parseY s.data.toList = some xs) := Lib.hid (by rw [HPX.out, if_pos (by rw [hts])])
            clear hts
            go_wp2_with (go_at_call 29; (with_reducible refine PR.mono ?_); rintro e w4 ⟨rfl, hb⟩; have HB4 := Lib.hid (HBW.out.trans (hb.mono HBW.out.size)); have HH4 := Lib.hid (HoldV.on HH.out hb); clear hb PR)
            go_ret2
            exact HOK.out xs _ _ HX.out HH4.out HB4.out
          · rw [decide_eq_false hts] at hq
            have HX : Hid (parseY s.data.toList = none) := Lib.hid (by rw [HPX.out, if_neg (fun g => hts (Prod.mk.inj g).1)])
            clear hts
            go_wp2_with (go_at_call 29; (with_reducible refine PR.mono ?_); rintro e w4 ⟨rfl, hb⟩; have HB4 := Lib.hid (HBW.out.trans (hb.mono HBW.out.size)); clear hb PR)
            go_ret2
            exact HBAD.out _ HX.out HB4.out
        · have hzb : (z == 0) = false := by rw [beq_eq_false_iff_ne]; exact hz0
          have hzn : (z != 0) = true := by rw [bne, hzb]; rfl
          have HX : Hid (parseY s.data.toList = none) := Lib.hid (by rw [HPX.out, if_neg (fun g => hz0 (Prod.mk.inj g).2)])
          clear hz0 hq
          go_wp2_with (go_at_call 29; (with_reducible refine PR.mono ?_); rintro e w4 ⟨rfl, hb⟩; have HB4 := Lib.hid (HBW.out.trans (hb.mono HBW.out.size)); clear hb PR)
          go_ret2
          exact HBAD.out _ HX.out HB4.out
end Go.Proofs.YtmfmohbcehkooaaGreatDoor
namespace Go.Proofs.YtmfmohbcehkooaaGreatDoor
open Go.RowKit
def FewY (l : List Sl) : Prop := l.length ≤ 70 ∧ ∀ x ∈ l, x.1.length ≤ 300 ∧ x.2.2.length ≤ 300
theorem FewY.small {l : List Sl} (h : FewY l) : SmallY l := fun x hx => by have := h.2 x hx; omega
open Classical in
noncomputable def fewY (l : List Sl) : Bool := decide (FewY l)
open Classical in
theorem fewY_yes {l : List Sl} (h : FewY l) : fewY l = true := by unfold fewY; exact decide_eq_true h
open Classical in
theorem fewY_no {l : List Sl} (h : ¬ FewY l) : fewY l = false := by unfold fewY; exact decide_eq_false h
def FewPostY (l : List Sl) (w : World) (e : Ending) (w' : World) : Prop := e = .returned (.bool (fewY l)) ∧ w = w'
abbrev exY : Sl := ([118, 105], false, [47, 98, 105, 110, 47, 97])
abbrev exYT : Bs := [118, 105, 32, 97, 117, 116, 111, 32, 47, 98, 105, 110, 47, 97, 10]
theorem exY_right : rightY exY = true := by decide +kernel
theorem exY_chk : chkY [exY] = 0 := by decide +kernel
theorem exY_text : textY [exY] = exYT := by decide +kernel
theorem exY_print : printY [exY] = (exYT, 0) := by rw [printY_ok exY_chk, exY_text]
theorem exY_parse : parseY exYT = some [exY] := by
  have := parse_textY exY_chk
  rwa [exY_text] at this
theorem exY_small : SmallY [exY] := fun x hx => by simp at hx; subst hx; decide
set_option maxRecDepth 100000 in
set_option maxHeartbeats 8000000 in
theorem awake30 (w : World) (hL : LaidP w) : Calls Tryz.prog 8 #[] w fun e w' => e = .returned (.bool true) ∧ Below w.heap.size w w' := by
  have PA := parseY_any ⟨#[118, 105, 32, 97, 117, 116, 111, 32, 47, 98, 105, 110, 47, 97, 10]⟩ (by decide) (by decide +kernel) w hL
  unfold PaPostY at PA
  have HPA : Hid (∀ v z (w' : World), (∀ l, parseY (ByteArray.mk #[118, 105, 32, 97, 117, 116, 111, 32, 47, 98, 105, 110, 47, 97, 10]).data.toList = some l → z = (0 : Int) ∧ HoldY w' v l) → z = 0 ∧ HoldY w' v [exY]) := Lib.hid (fun v z w' h => h _ exY_parse)
  have PR := fun v W (hb : Below w.heap.size w W) (h : HoldY W v [exY]) => printY_any v [exY] (by simp) exY_small W (hL.on hb) h
  unfold PrPostY at PR
  rw [exY_print] at PR
  have RI := fun W (hb : Below w.heap.size w W) => rightY_any exY (by decide) (by decide) W (hL.on hb)
  rw [exY_right] at RI
  have HF : Hid (∀ (W : World) v, HoldY W v [exY] → ∃ b o c, v = .slice (some ⟨b, o, none⟩) 1 c ∧ 1 ≤ c ∧ b < W.heap.size ∧ W.cell? ⟨b, o, none⟩ = some (.string ⟨#[118, 105]⟩) ∧ W.cell? ⟨b, o + 1, none⟩ = some (.bool false) ∧ W.cell? ⟨b, o + 2, none⟩ = some (.string ⟨#[47, 98, 105, 110, 47, 97]⟩)) := Lib.hid (fun W v h => by
    obtain ⟨a, c, b, o, rfl, hc, ha, hcell⟩ := h.parts
    obtain ⟨rfl, hb⟩ := ha (by simp)
    obtain ⟨c0, c1, c2⟩ := hcell 0 exY rfl
    exact ⟨b, o, c, rfl, hc, hb, by simpa using c0, by simpa using c1, by simpa using c2⟩)
  clear hL
  unfold aggY at RI
  dsimp only at RI
  go_enter Tryz.func8, Tryz.ntmps8
  go_wp2_with (first
    | (go_at_call 28; (with_reducible refine PA.mono ?_); rintro e w1 ⟨v1, z1, rfl, hp, -, hb⟩; obtain ⟨rfl, hv1⟩ := HPA.out _ _ _ hp; obtain ⟨b, o, c, rfl, hc, hbl, -⟩ := HF.out _ _ hv1; have HV1 := Lib.hid hv1; have HB1 := Lib.hid hb; clear hb hp hv1 PA)
    | (go_at_call 29; (with_reducible refine (PR _ _ HB1.out HV1.out).mono ?_); rintro e w2 ⟨rfl, hb⟩; have HB2 := Lib.hid (HB1.out.trans (hb.mono HB1.out.size)); have hv2 := HoldV.on HV1.out hb; obtain ⟨b', o', c', e', -, -, d0, d1, d2⟩ := HF.out _ _ hv2; cases e'; clear hb PR hv2)
    | (go_at_call 30; (with_reducible refine (RI _ HB2.out).mono ?_); rintro e w5 ⟨rfl, hb⟩; have HB5 := Lib.hid (HB2.out.trans (hb.mono HB2.out.size)); clear hb RI))
  go_ret
  exact ⟨rfl, HB5.out⟩
end Go.Proofs.YtmfmohbcehkooaaGreatDoor
