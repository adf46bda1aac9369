/-
  The program's cut at a relation, parseGroup, ParseList: what each returns; nothing old turns. Condition: LaidQ. parseGroup, ParseList, ParseAll: what each returns; nothing old turns. Condition: LaidQ. The program's cut at groups, ParseAll: what each returns; nothing old turns. Condition: LaidQ. ParseAll: what it returns; nothing old turns. Condition: LaidQ.
-/
import Derived.Test.YtbeoklihpkfofaaGreatDoorQPParse
import Derived.Test.YtbeoklihpkfofaaGreatDoorQAll
namespace Go.Proofs.YtbeoklihpkfofaaGreatDoor
open Go.RowKit
theorem splitN_any (s sep : ByteArray) (hs : s.size ≤ 100000) (h1 : 1 ≤ sep.size) (w : World) (h : LaidQ w) : Calls Tryz.prog 208 #[.string s, .string sep, .int .i64 65] w fun e w' => (∃ a c, e = .returned (.slice a (Lib.splitN s.data.toList sep.data.toList 65).length c) ∧ HoldT w' (.slice a (Lib.splitN s.data.toList sep.data.toList 65).length c) (Lib.splitN s.data.toList sep.data.toList 65)) ∧ Below w.heap.size w w' := by
  obtain ⟨m, hm⟩ := h.m
  have := Tryz.strings_SplitN s sep 65 m w (by omega) hm h1 (by decide) (by decide)
  refine Calls.mono this fun e w' hp => ?_
  obtain ⟨rfl, rfl⟩ := hp
  have hd := Lib.splitB_data sep 0 (min 65 (s.size + 1) - 1) s
  have hd' : (Lib.splitB sep 0 (min 65 (s.size + 1) - 1) s).map (·.data.toList) = Lib.splitN s.data.toList sep.data.toList 65 := by
    rw [hd]; unfold Lib.splitN; rw [← sizeOf]
  have hlen := congrArg List.length hd'
  rw [List.length_map] at hlen
  have hle := Lib.splitB_length_le sep 0 (min 65 (s.size + 1) - 1) s
  obtain ⟨D, hD⟩ : ∃ D, Lib.splitB sep 0 (min 65 (s.size + 1) - 1) s = D := ⟨_, rfl⟩
  rw [hD] at hd' hlen hle ⊢
  rw [← hlen]
  refine ⟨⟨_, _, rfl, ?_⟩, (Below.refl _ _).alloc (Nat.le_refl _) _⟩
  rw [← hd']
  refine ⟨_, _, w.heap.size, 0, by rw [List.length_map], by rw [List.length_map]; omega, fun _ => ⟨rfl, by simp⟩, fun j l hj => ?_⟩
  rw [List.getElem?_map] at hj
  cases hg : D[j]? with
  | none => rw [hg] at hj; cases hj
  | some x =>
    rw [hg] at hj
    obtain rfl := Option.some.inj hj
    have hjl := (List.getElem?_eq_some_iff.1 hg).1
    rw [Nat.zero_add, cellRow _ w.heap.size j _ _ _ (heap_alloc_new w _), Lib.cellsOf, List.getElem?_toArray, List.getElem?_append_left (by rw [List.length_map]; exact hjl), List.getElem?_map, hg]
    rfl
def restM {α : Type} (parse : Bs → Option α) (xs : List α) (ps : List Bs) : Option (List α) := (ps.mapM parse).map (xs ++ ·)
theorem restM_nil {α : Type} (parse : Bs → Option α) (xs : List α) : restM parse xs [] = some xs := by simp [restM]
theorem restM_bad {α : Type} {parse : Bs → Option α} {xs : List α} {p : Bs} {ps : List Bs} (h : parse p = none) : restM parse xs (p :: ps) = none := by
  unfold restM; rw [List.mapM_cons, h]; rfl
theorem restM_step {α : Type} {parse : Bs → Option α} {xs : List α} {p : Bs} {ps : List Bs} {x : α} (h : parse p = some x) : restM parse xs (p :: ps) = restM parse (xs ++ [x]) ps := by
  unfold restM; rw [List.mapM_cons, h]
  cases ps.mapM parse with
  | none => rfl
  | some ys => simp
theorem drop_atQ {α : Type} {l : List α} {i : Nat} {x : α} (h : l[i]? = some x) : l.drop i = x :: l.drop (i + 1) := by
  obtain ⟨hi, e⟩ := List.getElem?_eq_some_iff.1 h
  rw [List.drop_eq_getElem_cons hi, e]
set_option maxHeartbeats 4000000 in
theorem fullS_any (a : Option Addr) (n c : Nat) (hn : n ≤ 90000) (w : World) : Calls Tryz.prog 209 #[.slice a n c] w fun e w' => e = .returned (.bool (decide (64 < n))) ∧ Below w.heap.size w w' := by
  have e : decide (64 < n) = decide (64 < (n : Int)) := by congr 1; apply propext; omega
  rw [e]
  go_enter Tryz.func209, Tryz.ntmps209
  go_wp2
  go_ret
  exact ⟨rfl, Below.refl _ _⟩
/-- What cut returns at relations. -/
def CutPost (o : Option (List Rl)) (w : World) (e : Ending) (w' : World) : Prop := (match o with
  | some l => ∃ v, e = .returned (.tuple #[v, .int .i64 0]) ∧ OwnQ w' w.heap.size v l
  | none => e = .returned (.tuple #[.slice none 0 0, .int .i64 2])) ∧ Below w.heap.size w w'
set_option maxRecDepth 100000 in
set_option maxHeartbeats 16000000 in
theorem cutR_any (s sep : ByteArray) (hs : s.size ≤ 100000) (h1 : 1 ≤ sep.size) (hp : ∀ p ∈ Lib.splitN s.data.toList sep.data.toList 65, p.length ≤ 4000) (w : World) (hL : LaidQ w) :
    Calls Tryz.prog 187 #[.string s, .string sep, .func (.func 156) #[] #[]] w (CutPost (cutP parseR sep.data.toList s.data.toList) w) := by
  obtain ⟨i0, hi, hz0, hz1, hz2'⟩ := info_parts infoQ
  have EN : ∀ args w, (callFunc 156 args).run Tryz.prog w = .ok (.enter 156 args) w := enters_of Tryz.func156 (by kernel_rfl) rfl
  have SP := splitN_any s sep hs h1 w hL
  have hle : (Lib.splitN s.data.toList sep.data.toList 65).length ≤ 65 := by
    unfold Lib.splitN
    have := splitK_len sep.data.toList (min 65 (s.data.toList.length + 1) - 1) s.data.toList
    omega
  obtain ⟨ps, hps⟩ : ∃ ps, Lib.splitN s.data.toList sep.data.toList 65 = ps := ⟨_, rfl⟩
  have hcp : cutP parseR sep.data.toList s.data.toList = if 64 < ps.length then none else ps.mapM parseR := by unfold cutP; rw [hps]
  rw [hps] at SP hle hp
  rw [hcp]
  obtain ⟨m, hm⟩ : ∃ m, ps.length = m := ⟨_, rfl⟩
  rw [hm] at SP hle ⊢
  have HPL := Lib.hid hp
  have HM := Lib.hid hm
  have HL := Lib.hid hL
  have FU := fun a c W => fullS_any a m c (by omega) W
  clear hcp hps hp hm hL hs h1
  by_cases h64 : 64 < m
  · rw [if_pos h64]
    rw [decide_eq_true h64] at FU
    clear h64
    go_enter Tryz.func187, Tryz.ntmps187
    go_wp2_with (first
      | (go_at_call 208; (with_reducible refine SP.mono ?_); rintro e w1 ⟨⟨a, c, rfl, -⟩, hb⟩; have HB := Lib.hid hb; clear hb)
      | (go_at_call 209; (with_reducible refine (FU _ _ _).mono ?_); rintro e w2 ⟨rfl, hb⟩; have HB2 := Lib.hid (HB.out.trans (hb.mono HB.out.size)); clear hb))
    go_ret2
    exact ⟨rfl, HB2.out⟩
  rw [if_neg h64]
  rw [decide_eq_false h64] at FU
  obtain ⟨R, hR⟩ : ∃ R, ps.mapM parseR = R := ⟨_, rfl⟩
  have HR0 : Hid (restM parseR [] (ps.drop 0) = R) := Lib.hid (by unfold restM; rw [List.drop_zero, hR]; cases R <;> simp)
  rw [hR]
  have HYES : Hid (∀ l v w', R = some l → OwnQ w' w.heap.size v l → Below w.heap.size w w' → CutPost R w (.returned (.tuple #[v, .int .i64 0])) w') := Lib.hid (fun l v w' h1 h2 h3 => by unfold CutPost; rw [h1]; exact ⟨⟨v, rfl, h2⟩, h3⟩)
  have HNO : Hid (R = none → ∀ w', Below w.heap.size w w' → CutPost R w (.returned (.tuple #[.slice none 0 0, .int .i64 2])) w') := Lib.hid (fun h1 w' h3 => by unfold CutPost; rw [h1]; exact ⟨rfl, h3⟩)
  clear hR h64
  go_enter Tryz.func187, Tryz.ntmps187
  go_wp2_with (first
    | (go_at_call 208; (with_reducible refine SP.mono ?_); rintro e w1 ⟨⟨a, c, rfl, hh⟩, hb⟩; have HH := Lib.hid hh; have HB := Lib.hid hb; clear hb hh)
    | (go_at_call 209; (with_reducible refine (FU _ _ _).mono ?_); rintro e w2 ⟨rfl, hb⟩; have HB2 := Lib.hid (HB.out.trans (hb.mono HB.out.size)); have HH2 := Lib.hid (HH.out.on hb); clear hb))
  clear SP FU
  obtain ⟨a', c', b, o, e, -, ha, hcell⟩ := HH2.out
  rw [HM.out] at e ha
  simp only [Value.slice.injEq] at e
  obtain ⟨rfl, -, rfl⟩ := e
  have HC := Lib.hid hcell
  have HL2 := Lib.hid (HL.out.on HB2.out)
  clear hcell HH HH2 HB
  have hsz2 := HB2.out.size
  go_loopw [9, 21] (fun u i wr => ∃ (k : Nat) (xs : List Rl), k ≤ m ∧ i = .int .i64 k ∧ Hid (xs.length = k) ∧ Hid (restM parseR xs (ps.drop k) = R) ∧ Hid (OwnQ wr w2.heap.size u xs) ∧ Hid (Below w2.heap.size w2 wr)) (fun _ i _ => m - (intOf i).toNat)
  case atStart => exact ⟨0, [], by omega, rfl, Lib.hid rfl, HR0, Lib.hid (OwnV.nil _ _ _ _), Lib.hid (Below.refl _ _)⟩
  case round =>
    clear HR0
    obtain ⟨k, xs, hk, rfl, HXL, HR, HO, HBX⟩ := hrel
    have HB := Lib.hid (HB2.out.trans (HBX.out.mono hsz2))
    have hsz := HB.out.size
    by_cases hlt : k < m
    · obtain ⟨rfl, hbw⟩ := ha (by omega)
      obtain ⟨p, hpk⟩ : ∃ p, ps[k]? = some p := ⟨_, List.getElem?_eq_getElem (by rw [HM.out]; exact hlt)⟩
      have c0 := HC.out k p hpk
      rw [← HBX.out.cell (p := ⟨b, o + k, none⟩) hbw] at c0
      have hpl := HPL.out p (List.mem_of_getElem? hpk)
      have PA := fun W (hb : Below wr.heap.size wr W) => parseP_any ⟨p.toArray⟩ (by rw [sizeOf, bytesOf]; exact hpl) W ((HL2.out.on HBX.out).on hb)
      unfold ParsePostP at PA
      rw [bytesOf] at PA
      have hdr := drop_atQ hpk
      cases hq : parseR p with
      | none =>
        have G := Lib.hid (HNO.out (by have := HR.out; rw [hdr, restM_bad hq] at this; exact this.symm))
        rw [hq] at PA
        unfold parsedQ relV at PA
        dsimp only at PA
        generalize (⟨p.toArray⟩ : ByteArray) = P at *
        clear hpk hpl hdr hq HR HO HYES HNO hi hz0 hz1 hz2'
        go_wp2_with (go_at_fn 156; (with_reducible refine (PA _ (Below.refl _ _)).mono ?_); rintro e w4 ⟨rfl, hb⟩; have HB4 := Lib.hid (HB.out.trans (hb.mono hsz)); clear hb PA)
        go_ret2
        exact G.out _ (HB4.out.alloc HB4.out.size _)
      | some x =>
        obtain ⟨x0, x1, x2⟩ := x
        have HR2 : Hid (restM parseR (xs ++ [(x0, x1, x2)]) (ps.drop (k + 1)) = R) := Lib.hid (by have := HR.out; rw [hdr, restM_step hq] at this; exact this)
        rw [hq] at PA
        unfold parsedQ relV at PA
        dsimp only at PA
        have HXX : Hid ((⟨x0.toArray⟩ : ByteArray).data.toList = x0 ∧ (⟨x1.toArray⟩ : ByteArray).data.toList = x1 ∧ (⟨x2.toArray⟩ : ByteArray).data.toList = x2) := Lib.hid ⟨by simp, by simp, by simp⟩
        have hxl : (xs ++ [(x0, x1, x2)]).length = k + 1 := by rw [List.length_append, HXL.out]; rfl
        have HXL2 := Lib.hid hxl
        generalize (⟨p.toArray⟩ : ByteArray) = P at *
        generalize (⟨x0.toArray⟩ : ByteArray) = X0 at *
        generalize (⟨x1.toArray⟩ : ByteArray) = X1 at *
        generalize (⟨x2.toArray⟩ : ByteArray) = X2 at *
        clear hpk hpl hdr hq HR HYES HNO hxl
        go_wp2_with (first
          | (go_at_fn 156; (with_reducible refine (PA _ (Below.refl _ _)).mono ?_); rintro e w4 ⟨rfl, hb⟩; have HB4 := Lib.hid (HB.out.trans (hb.mono hsz)); have HBX4 := Lib.hid (HBX.out.trans (hb.mono HBX.out.size)); have HO4 := Lib.hid (OwnV.on HO.out hb); have hz4 := HB4.out.size; clear hb PA HO)
          | (at_builtin; refine wpList_append_own _ rfl _ _ 28 rfl w2.heap.size 57 i0 _ 3 48 Tryz.underlying28 hi hz0 hz1 hz2' rfl (by decide) _ _ _ rfl (World.ownsRow.alloc (World.ownsRow.alloc HO4.out.2 _) _) ⟨w4.heap.size + 1, 0, none⟩ 1 1 [.string X0, .string X1, .string X2] rfl rfl ?c1 ?c2 ?c3 ?c4 ?c5 ?_))
        case c1 =>
          intro j u hj
          match j, hj with
          | 0, hj => simp at hj; subst hj; simp [Addr.add]
          | 1, hj => simp at hj; subst hj; simp [Addr.add]
          | 2, hj => simp at hj; subst hj; simp [Addr.add]
        case c2 => intro u hu; simp at hu; rcases hu with rfl | rfl | rfl <;> rfl
        case c3 => rw [List.length_map, HXL.out]; unfold maxLen; omega
        case c4 => rw [List.length_map, HXL.out]; omega
        case c5 => have := HBX4.out.size; simp; omega
        intro v' w5 hown' hgrow _
        have hO := HO4.out.on ((Below.refl w4.heap.size w4).alloc (Nat.le_refl _) (.cells #[.string X0, .string X1, .string X2] 57))
        have HO5 : Hid (OwnQ w5 w2.heap.size v' (xs ++ [(x0, x1, x2)])) := Lib.hid (OwnQ.app (x := (x0, x1, x2)) HXX.out.1 HXX.out.2.1 HXX.out.2.2 (by simpa using hown'))
        have HB5 : Hid (Below w2.heap.size w2 w5) := Lib.hid (OwnV.below (HBX4.out.alloc HBX4.out.size _) hO hgrow (Nat.le_refl _) (by have := HBX4.out.size; simp; omega))
        clear hown' hgrow hO
        go_wp2
        go_roundw
        case rel => exact ⟨k + 1, _, by omega, by go_num, HXL2, HR2, HO5, HB5⟩
        case measure => simp [intOf]; omega
    · obtain rfl : k = m := by omega
      have HE : Hid (R = some xs) := Lib.hid (by have := HR.out; rw [List.drop_of_length_le (by rw [HM.out]; omega), restM_nil] at this; exact this.symm)
      clear hlt HR HNO
      go_wp2
      go_ret2
      exact HYES.out _ _ _ HE.out (OwnV.mono HO.out hsz2) HB.out
end Go.Proofs.YtbeoklihpkfofaaGreatDoor
namespace Go.Proofs.YtbeoklihpkfofaaGreatDoor
open Go.RowKit
theorem cutPost_some {l : List Rl} {w w' : World} {e : Ending} (h : CutPost (some l) w e w') : ∃ a c, e = .returned (.tuple #[.slice a l.length c, .int .i64 0]) ∧ OwnQ w' w.heap.size (.slice a l.length c) l ∧ Below w.heap.size w w' := by
  obtain ⟨⟨v, he, ho⟩, hb⟩ := h
  obtain ⟨a, c, hv⟩ := OwnV.form ho
  rw [List.length_map] at hv
  subst hv
  exact ⟨a, c, he, ho, hb⟩
theorem cutPost_none {w w' : World} {e : Ending} (h : CutPost none w e w') : e = .returned (.tuple #[.slice none 0 0, .int .i64 2]) ∧ Below w.heap.size w w' := h
set_option maxHeartbeats 4000000 in
theorem parseGroup_any (s : ByteArray) (hs : s.size ≤ 100000) (hp : ∀ p ∈ Lib.splitN s.data.toList sepG 65, p.length ≤ 4000) (w : World) (hL : LaidQ w) : Calls Tryz.prog 154 #[.string s] w (CutPost (parseG s.data.toList) w) := by
  have C := cutR_any s ⟨#[32, 124, 32]⟩ hs (by decide) hp w hL
  have e : cutP parseR (ByteArray.mk #[32, 124, 32]).data.toList s.data.toList = parseG s.data.toList := rfl
  rw [e] at C
  cases hq : parseG s.data.toList with
  | none =>
    rw [hq] at C
    have C2 := C.mono (fun e w' h => cutPost_none h)
    clear C hq e hL hp hs
    go_enter Tryz.func154, Tryz.ntmps154
    go_wp2_with (go_at_call 187; (with_reducible refine C2.mono ?_); rintro e w1 ⟨rfl, hb⟩; have HB := Lib.hid hb; clear hb)
    go_ret2
    exact ⟨rfl, HB.out⟩
  | some l =>
    rw [hq] at C
    have C2 := C.mono (fun e w' h => cutPost_some h)
    have HP : Hid (∀ v w', OwnQ w' w.heap.size v l → Below w.heap.size w w' → CutPost (some l) w (.returned (.tuple #[v, .int .i64 0])) w') := Lib.hid (fun v w' h1 h2 => ⟨⟨v, rfl, h1⟩, h2⟩)
    generalize hn : l.length = n at *
    clear C hq e hL hp hs hn
    go_enter Tryz.func154, Tryz.ntmps154
    go_wp2_with (go_at_call 187; (with_reducible refine C2.mono ?_); rintro e w1 ⟨a, c, rfl, ho, hb⟩; have HO := Lib.hid ho; have HB := Lib.hid hb; clear hb ho)
    go_ret2
    exact HP.out _ _ HO.out HB.out
set_option maxHeartbeats 4000000 in
theorem parseGroupsR_any (s : ByteArray) (hs : s.size ≤ 100000) (hp : ∀ p ∈ Lib.splitN s.data.toList sepA 65, p.length ≤ 4000) (w : World) (hL : LaidQ w) : Calls Tryz.prog 155 #[.string s, .func (.func 156) #[] #[]] w (CutPost (parseQ s.data.toList) w) := by
  have C := cutR_any s ⟨#[44, 32]⟩ hs (by decide) hp w hL
  have he := emptyT s
  by_cases h0 : s.size = 0
  · have hn : s.data.toList = [] := List.eq_nil_of_length_eq_zero (by rw [← sizeOf]; exact h0)
    rw [decide_eq_true h0] at he
    have HP : Hid (∀ w', Below w.heap.size w w' → CutPost (parseQ s.data.toList) w (.returned (.tuple #[.slice none 0 0, .int .i64 0])) w') := Lib.hid (fun w' hb => by rw [hn]; exact ⟨⟨_, rfl, OwnV.nil _ _ _ _⟩, hb⟩)
    clear C h0 hn hp hs hL
    go_enter Tryz.func155, Tryz.ntmps155
    go_wp2
    go_ret2
    exact HP.out _ (Below.refl _ _)
  have hn : s.data.toList ≠ [] := fun e => h0 (by rw [sizeOf, e]; rfl)
  rw [decide_eq_false h0] at he
  have e : cutP parseR (ByteArray.mk #[44, 32]).data.toList s.data.toList = parseQ s.data.toList := by unfold parseQ; rw [if_neg hn]
  rw [e] at C
  cases hq : parseQ s.data.toList with
  | none =>
    rw [hq] at C
    have C2 := C.mono (fun e w' h => cutPost_none h)
    clear C hq e hL hp hs h0 hn
    go_enter Tryz.func155, Tryz.ntmps155
    go_wp2_with (go_at_call 187; (with_reducible refine C2.mono ?_); rintro e w1 ⟨rfl, hb⟩; have HB := Lib.hid hb; clear hb)
    go_ret2
    exact ⟨rfl, HB.out⟩
  | some l =>
    rw [hq] at C
    have C2 := C.mono (fun e w' h => cutPost_some h)
    have HP : Hid (∀ v w', OwnQ w' w.heap.size v l → Below w.heap.size w w' → CutPost (some l) w (.returned (.tuple #[v, .int .i64 0])) w') := Lib.hid (fun v w' h1 h2 => ⟨⟨v, rfl, h1⟩, h2⟩)
    generalize hln : l.length = n at *
    clear C hq e hL hp hs hln h0 hn
    go_enter Tryz.func155, Tryz.ntmps155
    go_wp2_with (go_at_call 187; (with_reducible refine C2.mono ?_); rintro e w1 ⟨a, c, rfl, ho, hb⟩; have HO := Lib.hid ho; have HB := Lib.hid hb; clear hb ho)
    go_ret2
    exact HP.out _ _ HO.out HB.out
set_option maxHeartbeats 4000000 in
theorem parseListQ_any (s : ByteArray) (hs : s.size ≤ 100000) (hp : ∀ p ∈ Lib.splitN s.data.toList sepA 65, p.length ≤ 4000) (w : World) (hL : LaidQ w) : Calls Tryz.prog 109 #[.string s] w (CutPost (parseQ s.data.toList) w) := by
  have C := parseGroupsR_any s hs hp w hL
  cases hq : parseQ s.data.toList with
  | none =>
    rw [hq] at C
    have C2 := C.mono (fun e w' h => cutPost_none h)
    clear C hq hL hp hs
    go_enter Tryz.func109, Tryz.ntmps109
    go_wp2_with (go_at_call 155; (with_reducible refine C2.mono ?_); rintro e w1 ⟨rfl, hb⟩; have HB := Lib.hid hb; clear hb)
    go_ret2
    exact ⟨rfl, HB.out⟩
  | some l =>
    rw [hq] at C
    have C2 := C.mono (fun e w' h => cutPost_some h)
    have HP : Hid (∀ v w', OwnQ w' w.heap.size v l → Below w.heap.size w w' → CutPost (some l) w (.returned (.tuple #[v, .int .i64 0])) w') := Lib.hid (fun v w' h1 h2 => ⟨⟨v, rfl, h1⟩, h2⟩)
    generalize hn : l.length = n at *
    clear C hq hL hp hs hn
    go_enter Tryz.func109, Tryz.ntmps109
    go_wp2_with (go_at_call 155; (with_reducible refine C2.mono ?_); rintro e w1 ⟨a, c, rfl, ho, hb⟩; have HO := Lib.hid ho; have HB := Lib.hid hb; clear hb ho)
    go_ret2
    exact HP.out _ _ HO.out HB.out
end Go.Proofs.YtbeoklihpkfofaaGreatDoor
namespace Go.Proofs.YtbeoklihpkfofaaGreatDoor
open Go.RowKit
theorem infoSl : (Tryz.prog.info? 28).map (fun i => (i.zero, i.size, i.bytes)) = some (some (.slice none 0 0), 1, 24) := by kernel_rfl
theorem kinds_apart {w : World} {b1 b2 s1 s2 n1 n2 : Nat} {v1 v2 : Value} {x1 x2 : List Value} {e1 e2 : TypeId} (h1 : w.ownsRow b1 e1 s1 v1 n1 x1) (h2 : w.ownsRow b2 e2 s2 v2 n2 x2) (he : e1 ≠ e2) : v1.ownBlock = none ∨ v1.ownBlock ≠ v2.ownBlock := by
  rcases h1.2 with ⟨rfl, _⟩ | ⟨g, cap, cur, rfl, hb, hg, _⟩
  · exact .inl rfl
  · refine .inr fun e => ?_
    rcases h2.2 with ⟨rfl, _⟩ | ⟨g', cap', cur', rfl, hb', hg', _⟩
    · simp [Value.ownBlock] at e
    · simp only [Value.ownBlock, Option.some.injEq] at e
      subst e
      rw [hg] at hg'
      simp only [Option.some.injEq, Obj.cells.injEq] at hg'
      exact he hg'.2.1
/-- Groups that a call owns: the outer row, and each group's. -/
def OwnGs (w : World) (B : Nat) (v : Value) (L : List Gv) : Prop := OwnV 28 1 w B v (L.map fun x => [x.2]) ∧ ∀ x ∈ L, OwnQ w B x.2 x.1
theorem OwnGs.nil (w : World) (B : Nat) : OwnGs w B (.slice none 0 0) [] := ⟨OwnV.nil _ _ _ _, fun x hx => by simp at hx⟩
theorem OwnGs.on {w w' : World} {B : Nat} {v : Value} {L : List Gv} (h : OwnGs w B v L) (hb : Below w.heap.size w w') : OwnGs w' B v L := ⟨OwnV.on h.1 hb, fun x hx => OwnV.on (h.2 x hx) hb⟩
theorem OwnGs.mono {w : World} {B B' : Nat} {v : Value} {L : List Gv} (h : OwnGs w B v L) (hb : B' ≤ B) : OwnGs w B' v L := ⟨OwnV.mono h.1 hb, fun x hx => OwnV.mono (h.2 x hx) hb⟩
theorem OwnGs.holds {w : World} {B : Nat} {v : Value} {L : List Gv} (h : OwnGs w B v L) : HoldGs w v L := ⟨OwnV.holds h.1, fun x hx => OwnV.holds (h.2 x hx)⟩
theorem OwnGs.app {w w' : World} {o : Obj} {B : Nat} {v v' sv : Value} {L : List Gv} {x : List Rl} (h : OwnGs w B v L) (hx : OwnQ w B sv x) (hown : w'.ownsRow B 28 1 v' (L.length + 1) ((L.map fun x => [x.2]).flatten ++ [sv])) (hg : (w.alloc o).grownBy w' v.ownBlock) : OwnGs w' B v' (L ++ [(x, sv)]) := by
  have key : ∀ (s : Value) (y : List Rl), OwnQ w B s y → OwnQ w' B s y := fun s y hy => ⟨hy.1, World.ownsRow.kept (World.ownsRow.alloc hy.2 o) hg (kinds_apart hy.2 h.1.2 (by decide))⟩
  refine ⟨?_, fun y hy => ?_⟩
  · rw [List.map_append]
    exact OwnV.app h.1.1 rfl (by rw [List.length_map]; exact hown)
  · rcases List.mem_append.1 hy with e | e
    · exact key _ _ (h.2 y e)
    · rw [List.mem_singleton.1 e]; exact key _ _ hx
/-- What cut returns at groups. -/
def CutPostG (o : Option (List (List Rl))) (w : World) (e : Ending) (w' : World) : Prop := (match o with
  | some l => ∃ v L, e = .returned (.tuple #[v, .int .i64 0]) ∧ fsts L = l ∧ OwnGs w' w.heap.size v L
  | none => e = .returned (.tuple #[.slice none 0 0, .int .i64 2])) ∧ Below w.heap.size w w'
set_option maxRecDepth 100000 in
set_option maxHeartbeats 16000000 in
theorem cutG_any (s sep : ByteArray) (hs : s.size ≤ 100000) (h1 : 1 ≤ sep.size) (hp : ∀ p ∈ Lib.splitN s.data.toList sep.data.toList 65, p.length ≤ 100000 ∧ ∀ q ∈ Lib.splitN p sepG 65, q.length ≤ 4000) (w : World) (hL : LaidQ w) :
    Calls Tryz.prog 186 #[.string s, .string sep, .func (.func 154) #[] #[]] w (CutPostG (cutP parseG sep.data.toList s.data.toList) w) := by
  obtain ⟨i0, hi, hz0, hz1, hz2'⟩ := info_parts infoSl
  have EN : ∀ args w, (callFunc 154 args).run Tryz.prog w = .ok (.enter 154 args) w := enters_of Tryz.func154 (by kernel_rfl) rfl
  have SP := splitN_any s sep hs h1 w hL
  have hle : (Lib.splitN s.data.toList sep.data.toList 65).length ≤ 65 := by
    unfold Lib.splitN
    have := splitK_len sep.data.toList (min 65 (s.data.toList.length + 1) - 1) s.data.toList
    omega
  obtain ⟨ps, hps⟩ : ∃ ps, Lib.splitN s.data.toList sep.data.toList 65 = ps := ⟨_, rfl⟩
  have hcp : cutP parseG sep.data.toList s.data.toList = if 64 < ps.length then none else ps.mapM parseG := by unfold cutP; rw [hps]
  rw [hps] at SP hle hp
  rw [hcp]
  obtain ⟨m, hm⟩ : ∃ m, ps.length = m := ⟨_, rfl⟩
  rw [hm] at SP hle ⊢
  have HPL := Lib.hid hp
  have HM := Lib.hid hm
  have HL := Lib.hid hL
  have FU := fun a c W => fullS_any a m c (by omega) W
  clear hcp hps hp hm hL hs h1
  by_cases h64 : 64 < m
  · rw [if_pos h64]
    rw [decide_eq_true h64] at FU
    clear h64
    go_enter Tryz.func186, Tryz.ntmps186
    go_wp2_with (first
      | (go_at_call 208; (with_reducible refine SP.mono ?_); rintro e w1 ⟨⟨a, c, rfl, -⟩, hb⟩; have HB := Lib.hid hb; clear hb)
      | (go_at_call 209; (with_reducible refine (FU _ _ _).mono ?_); rintro e w2 ⟨rfl, hb⟩; have HB2 := Lib.hid (HB.out.trans (hb.mono HB.out.size)); clear hb))
    go_ret2
    exact ⟨rfl, HB2.out⟩
  rw [if_neg h64]
  rw [decide_eq_false h64] at FU
  obtain ⟨R, hR⟩ : ∃ R, ps.mapM parseG = R := ⟨_, rfl⟩
  have HR0 : Hid (restM parseG [] (ps.drop 0) = R) := Lib.hid (by unfold restM; rw [List.drop_zero, hR]; cases R <;> simp)
  rw [hR]
  have HYES : Hid (∀ (l : List Gv) v w', R = some (fsts l) → OwnGs w' w.heap.size v l → Below w.heap.size w w' → CutPostG R w (.returned (.tuple #[v, .int .i64 0])) w') := Lib.hid (fun l v w' h1 h2 h3 => by unfold CutPostG; rw [h1]; exact ⟨⟨v, l, rfl, rfl, h2⟩, h3⟩)
  have HNO : Hid (R = none → ∀ w', Below w.heap.size w w' → CutPostG R w (.returned (.tuple #[.slice none 0 0, .int .i64 2])) w') := Lib.hid (fun h1 w' h3 => by unfold CutPostG; rw [h1]; exact ⟨rfl, h3⟩)
  clear hR h64
  go_enter Tryz.func186, Tryz.ntmps186
  go_wp2_with (first
    | (go_at_call 208; (with_reducible refine SP.mono ?_); rintro e w1 ⟨⟨a, c, rfl, hh⟩, hb⟩; have HH := Lib.hid hh; have HB := Lib.hid hb; clear hb hh)
    | (go_at_call 209; (with_reducible refine (FU _ _ _).mono ?_); rintro e w2 ⟨rfl, hb⟩; have HB2 := Lib.hid (HB.out.trans (hb.mono HB.out.size)); have HH2 := Lib.hid (HH.out.on hb); clear hb))
  clear SP FU
  obtain ⟨a', c', b, o, e, -, ha, hcell⟩ := HH2.out
  rw [HM.out] at e ha
  simp only [Value.slice.injEq] at e
  obtain ⟨rfl, -, rfl⟩ := e
  have HC := Lib.hid hcell
  have HL2 := Lib.hid (HL.out.on HB2.out)
  clear hcell HH HH2 HB
  have hsz2 := HB2.out.size
  go_loopw [9, 21] (fun u i wr => ∃ (k : Nat) (xs : List Gv), k ≤ m ∧ i = .int .i64 k ∧ Hid (xs.length = k) ∧ Hid (restM parseG (fsts xs) (ps.drop k) = R) ∧ Hid (OwnGs wr w2.heap.size u xs) ∧ Hid (Below w2.heap.size w2 wr)) (fun _ i _ => m - (intOf i).toNat)
  case atStart => exact ⟨0, [], by omega, rfl, Lib.hid rfl, HR0, Lib.hid (OwnGs.nil _ _), Lib.hid (Below.refl _ _)⟩
  case round =>
    clear HR0
    obtain ⟨k, xs, hk, rfl, HXL, HR, HO, HBX⟩ := hrel
    have HB := Lib.hid (HB2.out.trans (HBX.out.mono hsz2))
    have hsz := HB.out.size
    by_cases hlt : k < m
    · obtain ⟨rfl, hbw⟩ := ha (by omega)
      obtain ⟨p, hpk⟩ : ∃ p, ps[k]? = some p := ⟨_, List.getElem?_eq_getElem (by rw [HM.out]; exact hlt)⟩
      have c0 := HC.out k p hpk
      rw [← HBX.out.cell (p := ⟨b, o + k, none⟩) hbw] at c0
      have hpl := HPL.out p (List.mem_of_getElem? hpk)
      have PA := fun W (hb : Below wr.heap.size wr W) => parseGroup_any ⟨p.toArray⟩ (by rw [sizeOf, bytesOf]; exact hpl.1) (by rw [bytesOf]; exact hpl.2) W ((HL2.out.on HBX.out).on hb)
      rw [bytesOf] at PA
      have hdr := drop_atQ hpk
      cases hq : parseG p with
      | none =>
        have G := Lib.hid (HNO.out (by have := HR.out; rw [hdr, restM_bad hq] at this; exact this.symm))
        rw [hq] at PA
        have PA := fun W hb => (PA W hb).mono (fun e w' h => cutPost_none h)
        generalize (⟨p.toArray⟩ : ByteArray) = P at *
        clear hpk hpl hdr hq HR HO HYES HNO hi hz0 hz1 hz2'
        go_wp2_with (go_at_fn 154; (with_reducible refine (PA _ (Below.refl _ _)).mono ?_); rintro e w4 ⟨rfl, hb⟩; have HB4 := Lib.hid (HB.out.trans (hb.mono hsz)); clear hb PA)
        go_ret2
        exact G.out _ HB4.out
      | some x =>
        have HR2 : Hid (∀ sv, restM parseG (fsts (xs ++ [(x, sv)])) (ps.drop (k + 1)) = R) := Lib.hid (fun sv => by have := HR.out; rw [hdr, restM_step hq] at this; rw [show fsts (xs ++ [(x, sv)]) = fsts xs ++ [x] by simp [fsts]]; exact this)
        rw [hq] at PA
        have PA := fun W hb => (PA W hb).mono (fun e w' h => cutPost_some h)
        have hxl : ∀ sv, (xs ++ [(x, sv)]).length = k + 1 := fun sv => by rw [List.length_append, HXL.out]; rfl
        have HXL2 := Lib.hid hxl
        generalize (⟨p.toArray⟩ : ByteArray) = P at *
        obtain ⟨xn, hxn⟩ : ∃ xn, x.length = xn := ⟨_, rfl⟩
        rw [hxn] at PA
        clear hpk hpl hdr hq HR HYES HNO hxl hxn
        go_wp2_with (first
          | (go_at_fn 154; (with_reducible refine (PA _ (Below.refl _ _)).mono ?_); rintro e w4 ⟨ga, gc, rfl, ho, hb⟩; have HB4 := Lib.hid (HB.out.trans (hb.mono hsz)); have HBX4 := Lib.hid (HBX.out.trans (hb.mono HBX.out.size)); have HO4 := Lib.hid (OwnGs.on HO.out hb); have HN4 := Lib.hid (OwnV.mono ho HBX.out.size); have hz4 := HB4.out.size; clear hb PA HO ho)
          | (at_builtin; refine wpList_append_own _ rfl _ _ 27 rfl w2.heap.size 28 i0 _ 1 24 Tryz.underlying27 hi hz0 hz1 hz2' rfl (by decide) _ _ _ rfl (World.ownsRow.alloc HO4.out.1.2 _) ⟨w4.heap.size, 0, none⟩ 1 1 [.slice ga xn gc] rfl rfl ?c1 ?c2 ?c3 ?c4 ?c5 ?_))
        case c1 =>
          intro j u hj
          match j, hj with
          | 0, hj => simp at hj; subst hj; simp [Addr.add]
        case c2 => intro u hu; simp at hu; subst hu; rfl
        case c3 => rw [List.length_map, HXL.out]; unfold maxLen; omega
        case c4 => rw [List.length_map, HXL.out]; omega
        case c5 => have := HBX4.out.size; simp; omega
        intro v' w5 hown' hgrow _
        have HO5 : Hid (OwnGs w5 w2.heap.size v' (xs ++ [(x, .slice ga xn gc)])) := Lib.hid (OwnGs.app HO4.out HN4.out (by simpa using hown') hgrow)
        have HB5 : Hid (Below w2.heap.size w2 w5) := Lib.hid (OwnV.below HBX4.out HO4.out.1 hgrow (Nat.le_refl _) HBX4.out.size)
        have HR5 := Lib.hid (HR2.out (.slice ga xn gc))
        have HXL5 := Lib.hid (HXL2.out (.slice ga xn gc))
        clear hown' hgrow
        go_wp2
        go_roundw
        case rel => exact ⟨k + 1, _, by omega, by go_num, HXL5, HR5, HO5, HB5⟩
        case measure => simp [intOf]; omega
    · obtain rfl : k = m := by omega
      have HE : Hid (R = some (fsts xs)) := Lib.hid (by have := HR.out; rw [List.drop_of_length_le (by rw [HM.out]; omega), restM_nil] at this; exact this.symm)
      clear hlt HR HNO
      go_wp2
      go_ret2
      exact HYES.out _ _ _ HE.out (OwnGs.mono HO.out hsz2) HB.out
end Go.Proofs.YtbeoklihpkfofaaGreatDoor
namespace Go.Proofs.YtbeoklihpkfofaaGreatDoor
open Go.RowKit
theorem cutPostG_some {l : List (List Rl)} {w w' : World} {e : Ending} (h : CutPostG (some l) w e w') : ∃ a n c L, e = .returned (.tuple #[.slice a n c, .int .i64 0]) ∧ fsts L = l ∧ OwnGs w' w.heap.size (.slice a n c) L ∧ Below w.heap.size w w' := by
  obtain ⟨⟨v, L, he, hf, ho⟩, hb⟩ := h
  obtain ⟨a, c, hv⟩ := OwnV.form ho.1
  subst hv
  exact ⟨a, _, c, L, he, hf, ho, hb⟩
theorem cutPostG_none {w w' : World} {e : Ending} (h : CutPostG none w e w') : e = .returned (.tuple #[.slice none 0 0, .int .i64 2]) ∧ Below w.heap.size w w' := h
set_option maxHeartbeats 4000000 in
theorem parseGroupsG_any (s : ByteArray) (hs : s.size ≤ 100000) (hp : ∀ p ∈ Lib.splitN s.data.toList sepA 65, p.length ≤ 100000 ∧ ∀ q ∈ Lib.splitN p sepG 65, q.length ≤ 4000) (w : World) (hL : LaidQ w) : Calls Tryz.prog 153 #[.string s, .func (.func 154) #[] #[]] w (CutPostG (parseA s.data.toList) w) := by
  have C := cutG_any s ⟨#[44, 32]⟩ hs (by decide) hp w hL
  have he := emptyT s
  by_cases h0 : s.size = 0
  · have hn : s.data.toList = [] := List.eq_nil_of_length_eq_zero (by rw [← sizeOf]; exact h0)
    rw [decide_eq_true h0] at he
    have HP : Hid (∀ w', Below w.heap.size w w' → CutPostG (parseA s.data.toList) w (.returned (.tuple #[.slice none 0 0, .int .i64 0])) w') := Lib.hid (fun w' hb => by rw [hn]; exact ⟨⟨_, [], rfl, rfl, OwnGs.nil _ _⟩, hb⟩)
    clear C h0 hn hp hs hL
    go_enter Tryz.func153, Tryz.ntmps153
    go_wp2
    go_ret2
    exact HP.out _ (Below.refl _ _)
  have hn : s.data.toList ≠ [] := fun e => h0 (by rw [sizeOf, e]; rfl)
  rw [decide_eq_false h0] at he
  have e : cutP parseG (ByteArray.mk #[44, 32]).data.toList s.data.toList = parseA s.data.toList := by unfold parseA; rw [if_neg hn]
  rw [e] at C
  cases hq : parseA s.data.toList with
  | none =>
    rw [hq] at C
    have C2 := C.mono (fun e w' h => cutPostG_none h)
    clear C hq e hL hp hs h0 hn
    go_enter Tryz.func153, Tryz.ntmps153
    go_wp2_with (go_at_call 186; (with_reducible refine C2.mono ?_); rintro e w1 ⟨rfl, hb⟩; have HB := Lib.hid hb; clear hb)
    go_ret2
    exact ⟨rfl, HB.out⟩
  | some l =>
    rw [hq] at C
    have C2 := C.mono (fun e w' h => cutPostG_some h)
    have HP : Hid (∀ v L w', fsts L = l → OwnGs w' w.heap.size v L → Below w.heap.size w w' → CutPostG (some l) w (.returned (.tuple #[v, .int .i64 0])) w') := Lib.hid (fun v L w' h0 h1 h2 => ⟨⟨v, L, rfl, h0, h1⟩, h2⟩)
    clear C hq e hL hp hs h0 hn
    go_enter Tryz.func153, Tryz.ntmps153
    go_wp2_with (go_at_call 186; (with_reducible refine C2.mono ?_); rintro e w1 ⟨a, n, c, L, rfl, hf, ho, hb⟩; have HF := Lib.hid hf; have HO := Lib.hid ho; have HB := Lib.hid hb; clear hb ho hf)
    go_ret2
    exact HP.out _ _ _ HF.out HO.out HB.out
set_option maxHeartbeats 4000000 in
theorem parseAllQ_any (s : ByteArray) (hs : s.size ≤ 100000) (hp : ∀ p ∈ Lib.splitN s.data.toList sepA 65, p.length ≤ 100000 ∧ ∀ q ∈ Lib.splitN p sepG 65, q.length ≤ 4000) (w : World) (hL : LaidQ w) : Calls Tryz.prog 108 #[.string s] w (CutPostG (parseA s.data.toList) w) := by
  have C := parseGroupsG_any s hs hp w hL
  cases hq : parseA s.data.toList with
  | none =>
    rw [hq] at C
    have C2 := C.mono (fun e w' h => cutPostG_none h)
    clear C hq hL hp hs
    go_enter Tryz.func108, Tryz.ntmps108
    go_wp2_with (go_at_call 153; (with_reducible refine C2.mono ?_); rintro e w1 ⟨rfl, hb⟩; have HB := Lib.hid hb; clear hb)
    go_ret2
    exact ⟨rfl, HB.out⟩
  | some l =>
    rw [hq] at C
    have C2 := C.mono (fun e w' h => cutPostG_some h)
    have HP : Hid (∀ v L w', fsts L = l → OwnGs w' w.heap.size v L → Below w.heap.size w w' → CutPostG (some l) w (.returned (.tuple #[v, .int .i64 0])) w') := Lib.hid (fun v L w' h0 h1 h2 => ⟨⟨v, L, rfl, h0, h1⟩, h2⟩)
    clear C hq hL hp hs
    go_enter Tryz.func108, Tryz.ntmps108
    go_wp2_with (go_at_call 153; (with_reducible refine C2.mono ?_); rintro e w1 ⟨a, n, c, L, rfl, hf, ho, hb⟩; have HF := Lib.hid hf; have HO := Lib.hid ho; have HB := Lib.hid hb; clear hb ho hf)
    go_ret2
    exact HP.out _ _ _ HF.out HO.out HB.out
end Go.Proofs.YtbeoklihpkfofaaGreatDoor
