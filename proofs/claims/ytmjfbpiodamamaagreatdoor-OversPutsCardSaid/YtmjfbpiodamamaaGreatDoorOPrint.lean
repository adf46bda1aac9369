/-
  The program's Print of overrides: what it returns; nothing old turns. Conditions: LaidP, Laid.
-/
import Derived.Test.YtmjfbpiodamamaaGreatDoorOFindR
import Derived.Test.YtmjfbpiodamamaaGreatDoorTBld
import Derived.Deep.RegionHeld3
import Derived.Shelf.Strings.MapGrows
namespace Go.Proofs.YtmjfbpiodamamaaGreatDoor
open Go.RowKit Go.Shelf
theorem join_isC (c : UInt8) : ∀ (l : List Bs), Lib.join l [c] = joinC c l
  | [] => rfl
  | [p] => by simp [Lib.join, joinC, List.intercalate]
  | p :: q :: ps => by
    have := join_isC c (q :: ps)
    unfold Lib.join List.intercalate at this ⊢
    rw [joinC, ← this, List.intersperse_cons_cons]
    simp
theorem joinC_len2 (c : UInt8) (N : Nat) : ∀ (l : List Bs), (∀ p ∈ l, p.length ≤ N) → (joinC c l).length ≤ l.length * (N + 1)
  | [], _ => by simp [joinC]
  | [p], h => by have := h p (by simp); simp [joinC]; omega
  | p :: q :: ps, h => by
    have h1 := joinC_len2 c N (q :: ps) (fun x hx => h x (List.mem_cons_of_mem _ hx))
    have h2 := h p (by simp)
    rw [joinC, List.length_append, List.length_cons, List.length_cons (a := p), Nat.add_mul]
    omega
theorem joinB_any (v : Value) (ls : List Bs) (h0 : 0 < ls.length) (hl : ls.length ≤ 90000) (hs : ∀ p ∈ ls, p.length ≤ 4000) (w : World) (h : HoldT w v ls) :
    Calls Tryz.prog 29 #[v, .string ⟨#[32]⟩] w fun e w' => e = .returned (.string ⟨(joinC 32 ls).toArray⟩) ∧ Below w.heap.size w w' := by
  obtain ⟨a, c, b, o, rfl, hc, ha, hcell⟩ := h
  obtain ⟨rfl, hb⟩ := ha h0
  have hm : (ls.map fun l => ByteArray.mk l.toArray).map (fun x => x.data.toList) = ls := by
    rw [List.map_map]; conv => rhs; rw [← List.map_id ls]
    exact List.map_congr_left (fun l _ => by simp)
  have hj := joinC_len2 32 4000 ls hs
  have hjj : ls.length * 4001 ≤ 90000 * 4001 := Nat.mul_le_mul_right _ hl
  have := Tryz.strings_Join b o c (ls.map fun l => ByteArray.mk l.toArray) ⟨#[32]⟩ w (fun j x hx => by
    rw [List.getElem?_map] at hx
    cases hg : ls[j]? with
    | none => rw [hg] at hx; cases hx
    | some l => rw [hg] at hx; obtain rfl := Option.some.inj hx; exact hcell j l hg) hb (by rw [List.length_map]; omega) (by rw [List.length_map]; exact hc) (by rw [hm]; show (Lib.join ls [32]).length ≤ _; rw [join_isC]; omega)
  rw [hm, List.length_map, show (ByteArray.mk #[32]).data.toList = [32] from rfl, join_isC] at this
  exact this
theorem wordsO_len {x : Ov} (h : rightO x = true) : ∀ p ∈ wordsO x, p.length ≤ 200 := fun p hp => by
  obtain ⟨h1, h2, h3, h4⟩ := rightO_parts h
  simp only [wordsO, List.mem_cons, List.not_mem_nil, or_false] at hp
  rcases hp with rfl | rfl | rfl | rfl
  · have := itoa_len x.2.2.1 (by omega) (by omega); simp [idO]; omega
  · have := itoa_len x.2.2.2 (by omega) (by omega); simp [idO]; omega
  · unfold octO; rw [digL_length]; omega
  · exact (right_parts h1).2.2.2.2
theorem lineO_len {x : Ov} (h : rightO x = true) : (lineO x).length ≤ 804 := by
  have := joinC_len2 32 200 (wordsO x) (wordsO_len h)
  unfold lineO
  simpa [wordsO] using this
theorem textO_drop {l : List Ov} {k : Nat} {x : Ov} (h : l[k]? = some x) : textO (l.drop k) = (lineO x ++ [10]) ++ textO (l.drop (k + 1)) := by
  obtain ⟨hk, e⟩ := List.getElem?_eq_some_iff.1 h
  rw [List.drop_eq_getElem_cons hk, e]
  unfold textO ended10; rw [List.map_cons, List.flatMap_cons]
theorem textO_len : ∀ {l : List Ov}, (∀ x ∈ l, rightO x = true) → (textO l).length ≤ 805 * l.length
  | [], _ => by simp [textO, ended10]
  | x :: l, h => by
    have h1 := lineO_len (h x (by simp))
    have h2 := textO_len (l := l) (fun y hy => h y (by simp [hy]))
    have e : textO (x :: l) = (lineO x ++ [10]) ++ textO l := rfl
    rw [e, List.length_append, List.length_append, List.length_cons]
    simp only [List.length_cons, List.length_nil]; omega
theorem bld_dr {B b : Nat} {l : Bs} {W : World} (h : Bld B b l W) : Bld B b l W.drew := h
theorem hold4 (W : World) (a b c d : ByteArray) : HoldT (W.alloc (.cells #[.string a, .string b, .string c, .string d] 9)) (.slice (some ⟨W.heap.size, 0, none⟩) 4 4) [a.data.toList, b.data.toList, c.data.toList, d.data.toList] := by
  obtain ⟨x0, x1, x2, x3⟩ := boxV4 W (.string a) (.string b) (.string c) (.string d) 9
  refine ⟨some ⟨W.heap.size, 0, none⟩, 4, W.heap.size, 0, rfl, Nat.le_refl _, fun _ => ⟨rfl, by simp⟩, fun j l hj => ?_⟩
  match j, hj with
  | 0, hj => simp at hj; subst hj; simp [x0]
  | 1, hj => simp at hj; subst hj; simp [x1]
  | 2, hj => simp at hj; subst hj; simp [x2]
  | 3, hj => simp at hj; subst hj; simp [x3]
def PrPostO (l : List Ov) (w : World) (e : Ending) (w' : World) : Prop := e = .returned (.tuple #[.string (bsT (printO l).1), .int .i64 (printO l).2]) ∧ Below w.heap.size w w'
set_option maxRecDepth 100000 in
set_option maxHeartbeats 16000000 in
theorem printO_any (v : Value) (l : List Ov) (hl : l.length ≤ 90000) (hs : SmallO l) (w : World) (hL : LaidP w) (hA : Laid w) (h : HoldO w v l) : Calls Tryz.prog 9 #[v] w (PrPostO l w) := by
  have CK := checkO_any v l hl hs w hL h
  by_cases hz : chkO l = 0
  case neg =>
    have HP : Hid (∀ w', Below w.heap.size w w' → PrPostO l w (.returned (.tuple #[.string ⟨#[]⟩, .int .i64 (chkO l)])) w') := Lib.hid (fun w' hb => ⟨by rw [printO_no hz], hb⟩)
    obtain ⟨a, c, b, o, rfl, -⟩ := h.parts
    have hzz : chkO l = 22 ∨ chkO l = 1 := by rcases chkO_ways l with g | g | g <;> simp_all
    generalize chkO l = z at *
    clear h hs
    generalize l.length = n at *
    rcases hzz with rfl | rfl
    all_goals
      clear hz
      go_enter Tryz.func9, Tryz.ntmps9
      go_wp2_with (go_at_call 11; refine CK.mono ?_; rintro e w1 ⟨rfl, hb⟩; have HB := Lib.hid hb; clear hb)
      go_ret2
      exact HP.out _ HB.out
  have HP : Hid (∀ (S : ByteArray) w', S.data.toList = textO l → Below w.heap.size w w' → PrPostO l w (.returned (.tuple #[.string S, .int .i64 0])) w') := Lib.hid (fun S w' hS hb => ⟨by rw [printO_ok hz]; show _ = Ending.returned (Value.tuple #[.string (bsT (textO l)), .int .i64 0]); rw [← hS, show bsT S.data.toList = S from (strOf (x := S) rfl).symm], hb⟩)
  rw [hz] at CK
  have hri := (chkO_zero hz).2.right
  have hlen := textO_len hri
  have h64 := (chkO_zero hz).1
  obtain ⟨a, c, b, o, rfl, hc, ha, hcell⟩ := h.parts
  have HC := Lib.hid hcell
  have HRI := Lib.hid hri
  obtain ⟨n, hN⟩ : ∃ n, l.length = n := ⟨_, rfl⟩
  rw [hN] at hc ha hl CK hlen h64 ⊢
  have HN := Lib.hid hN
  have HA := Lib.hid hA
  clear hcell hN h hs hz hL hri hA
  go_enter Tryz.func9, Tryz.ntmps9
  go_wp2_with (go_at_call 11; refine CK.mono ?_; rintro e w1 ⟨rfl, hb⟩; have HB1 := Lib.hid hb; have hs1 := hb.size; clear hb)
  clear CK
  have HB2 : Hid (Below w.heap.size w (w1.alloc (.cells #[.pointer none, .slice none 0 0] tB))) := Lib.hid (HB1.out.alloc hs1 _)
  have HD0 := Lib.hid (bld_new w.heap.size w1 hs1)
  obtain ⟨bb, hbb⟩ : ∃ bb, bb = w1.heap.size := ⟨_, rfl⟩
  rw [← hbb] at HD0 ⊢
  have HEB := Lib.hid hbb
  clear hbb
  go_loopw [16] (fun i wr => ∃ (k : Nat) (out : Bs), k ≤ n ∧ i = .int .i64 k ∧ Hid (out ++ textO (l.drop k) = textO l) ∧ Hid (Bld w.heap.size bb out wr) ∧ bb < wr.heap.size ∧ Hid (Below w.heap.size w wr)) (fun i _ => n - (intOf i).toNat)
  case atStart => exact ⟨0, [], by omega, rfl, Lib.hid rfl, HD0, by rw [HEB.out]; simp, HB2⟩
  case round =>
    obtain ⟨k, out, hk, rfl, HO, HD, hbw2, HB⟩ := hrel
    have hsz := HB.out.size
    have hol : out.length ≤ 805 * n := by
      have := congrArg List.length HO.out
      rw [List.length_append] at this; omega
    by_cases hlt : k < n
    · obtain ⟨rfl, hbw⟩ := ha (by omega)
      obtain ⟨⟨p, m, u, g⟩, hx⟩ : ∃ x, l[k]? = some x := ⟨_, List.getElem?_eq_getElem (by rw [HN.out]; exact hlt)⟩
      obtain ⟨c0, c1, c2, c3⟩ := HC.out k _ hx
      have hr := HRI.out _ (List.mem_of_getElem? hx)
      obtain ⟨-, hm, hu, hg⟩ := rightO_parts hr
      have hwl := wordsO_len hr
      have hll := lineO_len hr
      dsimp only at c0 c1 c2 c3 hm hu hg
      rw [← HB.out.cell (p := ⟨b, o + k * 4, none⟩) hbw] at c0
      rw [← HB.out.cell (p := ⟨b, o + k * 4 + 1, none⟩) hbw] at c1
      rw [← HB.out.cell (p := ⟨b, o + k * 4 + 2, none⟩) hbw] at c2
      rw [← HB.out.cell (p := ⟨b, o + k * 4 + 3, none⟩) hbw] at c3
      have IU := fun W (h : Below wr.heap.size wr W) => idText_any u (by omega) (by omega) W ((HA.out.on HB.out).on h)
      have IG := fun W (h : Below wr.heap.size wr W) => idText_any g (by omega) (by omega) W ((HA.out.on HB.out).on h)
      have IO := fun W (h : Below wr.heap.size wr W) => octal_any m W ((HA.out.on HB.out).on h)
      have HOX : Hid (out ++ (lineO (p, m, u, g) ++ [10]) ++ textO (l.drop (k + 1)) = textO l) := Lib.hid (by rw [List.append_assoc, ← textO_drop hx, HO.out])
      clear hx HO hr
      obtain ⟨X, hX⟩ : ∃ X, bsT p = X := ⟨_, rfl⟩
      obtain ⟨Y, hY⟩ : ∃ Y, bsT (idO u) = Y := ⟨_, rfl⟩
      obtain ⟨Z, hZ⟩ : ∃ Z, bsT (idO g) = Z := ⟨_, rfl⟩
      obtain ⟨T, hT⟩ : ∃ T, bsT (octO m) = T := ⟨_, rfl⟩
      obtain ⟨J, hJ⟩ : ∃ J : ByteArray, bsT (lineO (p, m, u, g)) = J := ⟨_, rfl⟩
      have hJs : J.size ≤ 804 := by rw [← hJ, sizeOf, bytesOf]; exact hll
      have HJL : Hid ((J ++ ⟨#[10]⟩ : ByteArray).data.toList = lineO (p, m, u, g) ++ [10]) := Lib.hid (by rw [← hJ]; simp)
      have HWO : Hid (wordsO (p, m, u, g) = [Y.data.toList, Z.data.toList, T.data.toList, X.data.toList]) := Lib.hid (by rw [← hX, ← hY, ← hZ, ← hT]; rfl)
      have JN : ∀ W v, HoldT W v [Y.data.toList, Z.data.toList, T.data.toList, X.data.toList] → Calls Tryz.prog 29 #[v, .string ⟨#[32]⟩] W fun e w' => e = .returned (.string J) ∧ Below W.heap.size W w' := fun W v h => by
        have := joinB_any v _ (by simp) (by simp) (fun q hq => Nat.le_trans (hwl q (by rw [HWO.out]; exact hq)) (by omega)) W h
        rw [← HWO.out] at this
        rw [← hJ]; exact this
      rw [hY] at IU
      rw [hZ] at IG
      have hT' : (⟨(digL 8 (nat64 m % 4096) 4).toArray⟩ : ByteArray) = T := hT
      rw [hT'] at IO
      have x0 := (boxV4 wr (.string X) (.int .i64 m) (.int .i64 u) (.int .i64 g) 41)
      obtain ⟨x0, x1, x2, x3⟩ := x0
      have B0 := (Below.refl wr.heap.size wr).alloc (Nat.le_refl _) (.cells #[.string X, .int .i64 m, .int .i64 u, .int .i64 g] 41)
      rw [hX] at c0
      have h1s : ∀ x, (ByteArray.mk #[x]).size = 1 := fun _ => rfl
      clear hX hY hZ hT hT' hJ hwl hll
      have hs := And.intro x0 (And.intro x1 (And.intro x2 (And.intro x3 B0)))
      clear x0 x1 x2 x3 B0
      have q3 : ¬ 9223372036854775807 < J.size + 1 := by omega
      go_wp2
      generalize wr.alloc (.cells #[.string X, .int .i64 m, .int .i64 u, .int .i64 g] 41) = W3 at *
      obtain ⟨x0, x1, x2, x3, hB⟩ := hs
      have hs := And.intro x0 (And.intro x1 (And.intro x2 (And.intro x3 hB)))
      have BE := fun (V : World) (h : V.cell? ⟨wr.heap.size, 0, none⟩ = some (.string X) ∧ V.cell? ⟨wr.heap.size, 1, none⟩ = some (.int .i64 m) ∧ V.cell? ⟨wr.heap.size, 2, none⟩ = some (.int .i64 u) ∧ V.cell? ⟨wr.heap.size, 3, none⟩ = some (.int .i64 g) ∧ Below wr.heap.size wr V) => AtF.be (w := wr) (l := [(⟨wr.heap.size, 0, none⟩, .string X), (⟨wr.heap.size, 1, none⟩, .int .i64 m), (⟨wr.heap.size, 2, none⟩, .int .i64 u), (⟨wr.heap.size, 3, none⟩, .int .i64 g)]) h
      go_region_held3 (fun V => V.cell? ⟨wr.heap.size, 0, none⟩ = some (.string X) ∧ V.cell? ⟨wr.heap.size, 1, none⟩ = some (.int .i64 m) ∧ V.cell? ⟨wr.heap.size, 2, none⟩ = some (.int .i64 u) ∧ V.cell? ⟨wr.heap.size, 3, none⟩ = some (.int .i64 g) ∧ Below wr.heap.size wr V)
        (first | assumption | exact hs | exact AtF.dr (w := wr) (l := [(⟨wr.heap.size, 0, none⟩, .string X), (⟨wr.heap.size, 1, none⟩, .int .i64 m), (⟨wr.heap.size, 2, none⟩, .int .i64 u), (⟨wr.heap.size, 3, none⟩, .int .i64 g)]) hs | exact AtF.dr (w := wr) (l := [(⟨wr.heap.size, 0, none⟩, .string X), (⟨wr.heap.size, 1, none⟩, .int .i64 m), (⟨wr.heap.size, 2, none⟩, .int .i64 u), (⟨wr.heap.size, 3, none⟩, .int .i64 g)]) (by assumption) | exact AtF.on (w := wr) (l := [(⟨wr.heap.size, 0, none⟩, .string X), (⟨wr.heap.size, 1, none⟩, .int .i64 m), (⟨wr.heap.size, 2, none⟩, .int .i64 u), (⟨wr.heap.size, 3, none⟩, .int .i64 g)]) (by assumption) (by assumption) | exact AtF.al (w := wr) (l := [(⟨wr.heap.size, 0, none⟩, .string X), (⟨wr.heap.size, 1, none⟩, .int .i64 m), (⟨wr.heap.size, 2, none⟩, .int .i64 u), (⟨wr.heap.size, 3, none⟩, .int .i64 g)]) (by assumption) _ | exact AtF.ald (w := wr) (l := [(⟨wr.heap.size, 0, none⟩, .string X), (⟨wr.heap.size, 1, none⟩, .int .i64 m), (⟨wr.heap.size, 2, none⟩, .int .i64 u), (⟨wr.heap.size, 3, none⟩, .int .i64 g)]) (by assumption) _ | exact AtF.al (w := wr) (l := [(⟨wr.heap.size, 0, none⟩, .string X), (⟨wr.heap.size, 1, none⟩, .int .i64 m), (⟨wr.heap.size, 2, none⟩, .int .i64 u), (⟨wr.heap.size, 3, none⟩, .int .i64 g)]) hs _ | exact AtF.ald (w := wr) (l := [(⟨wr.heap.size, 0, none⟩, .string X), (⟨wr.heap.size, 1, none⟩, .int .i64 m), (⟨wr.heap.size, 2, none⟩, .int .i64 u), (⟨wr.heap.size, 3, none⟩, .int .i64 g)]) hs _)
        (((first | (go_at_call 26; first | ((with_reducible refine (IU _ (BE _ (by assumption))).mono ?_); rintro e w3 ⟨rfl, hb⟩) | ((with_reducible refine (IG _ (BE _ (by assumption))).mono ?_); rintro e w3 ⟨rfl, hb⟩)) | (go_at_call 27; (with_reducible refine (IO _ (BE _ (by assumption))).mono ?_); rintro e w3 ⟨rfl, hb⟩))))
      all_goals
        rename_i hHeld
        have hBE := BE _ hHeld
        have HH4 := Lib.hid (hold4 w3 Y Z T X)
        have HBD := Lib.hid (Lib.IsBuilderF.below HD.out hBE)
        have HB3 := Lib.hid (HB.out.trans (hBE.mono hsz))
        have HO2 : Hid ((out ++ (J ++ ⟨#[10]⟩ : ByteArray).data.toList) ++ textO (l.drop (k + 1)) = textO l) := Lib.hid (by rw [HJL.out]; exact HOX.out)
        have hbw4 := Nat.lt_of_lt_of_le hbw2 hBE.size
        clear hHeld hBE IU IG IO hs BE hB x0 x1 x2 x3 HOX HWO HJL HD
        generalize w3.alloc (.cells #[.string Y, .string Z, .string T, .string X] 9) = W4 at *
        go_wp2_with (first
          | (go_at_call 29; (with_reducible refine (JN _ _ HH4.out).mono ?_); rintro e w5 ⟨rfl, hb⟩; have HBD5 := Lib.hid (Lib.IsBuilderF.below HBD.out hb); have HB5 := Lib.hid (HB3.out.trans (hb.mono HB3.out.size)); have hbw5 := Nat.lt_of_lt_of_le hbw4 hb.size; clear hb JN)
          | (go_at_call 28; (with_reducible refine (wstr_any w.heap.size bb out _ w5 HBD5.out (by omega) (by rw [ByteArray.size_append, h1s]; omega) HB5.out.size).mono ?_); rintro e w6 ⟨v6, rfl, hd6, hb6, ho6⟩; have HD6 := Lib.hid hd6; have HB6 := Lib.hid (HB5.out.trans hb6); have hbw6 := Nat.lt_of_lt_of_le hbw5 hb6.size; clear hd6 hb6 ho6))
        go_roundw
        case rel => exact ⟨k + 1, _, by omega, by go_num, HO2, HD6, hbw6, HB6⟩
        case measure => simp [intOf]; omega
    · obtain rfl : k = n := by omega
      have HE : Hid (out = textO l) := Lib.hid (by have := HO.out; rw [List.drop_of_length_le (by rw [HN.out]; omega)] at this; simpa [textO, ended10] using this)
      have BS := bstr_any w.heap.size bb out wr HD.out hsz
      clear hlt HO
      go_wp2_with (go_at_call 30; refine BS.mono ?_; rintro e w3 ⟨rfl, hb3⟩; have HB3 := Lib.hid (HB.out.trans hb3); clear hb3)
      go_ret2
      exact HP.out _ _ (by rw [HE.out]) HB3.out
end Go.Proofs.YtmjfbpiodamamaaGreatDoor
