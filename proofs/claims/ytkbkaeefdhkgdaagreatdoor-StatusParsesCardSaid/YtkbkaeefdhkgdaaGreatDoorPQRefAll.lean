import Derived.Test.YtkbkaeefdhkgdaaGreatDoorPQCut
set_option maxRecDepth 100000
set_option maxHeartbeats 32000000
namespace Go.Proofs.YtkbkaeefdhkgdaaGreatDoor
section
open Go.RowKit
theorem cutPost_some {l : List Rl} {w w' : World} {e : Ending} (h : CutPost (some l) w e w') : ∃ a c, e = .returned (.tuple #[.slice a l.length c, .int .i64 0]) ∧ OwnQ w' w.heap.size (.slice a l.length c) l ∧ Below w.heap.size w w' := by
 obtain ⟨⟨v, he, ho⟩, hb⟩ := h
 obtain ⟨a, c, hv⟩ := OwnV.form ho
 rw [List.length_map] at hv
 subst hv
 exact ⟨a, c, he, ho, hb⟩
theorem cutPost_none {w w' : World} {e : Ending} (h : CutPost none w e w') : e = .returned (.tuple #[.slice none 0 0, .int .i64 2]) ∧ Below w.heap.size w w' := h
theorem parseGroup_any (s : ByteArray) (hs : s.size ≤ 100000) (hp : ∀ p ∈ Lib.splitN s.data.toList sepG 65, p.length ≤ 4000) (w : World) (hL : LaidQ w) : Calls Tryz.prog 118 #[.string s] w (CutPost (parseG s.data.toList) w) := by
 have C := cutR_any s ⟨#[32, 124, 32]⟩ hs (by decide) hp w hL
 have e : cutP parseR (ByteArray.mk #[32, 124, 32]).data.toList s.data.toList = parseG s.data.toList := rfl
 rw [e] at C
 cases hq : parseG s.data.toList with
 | none =>
  rw [hq] at C
  have C2 := C.mono (fun e w' h => cutPost_none h)
  clear C hq e hL hp hs
  go_enter Tryz.func118, Tryz.ntmps118
  go_wp2_with (go_at_call 150; (with_reducible refine C2.mono ?_); rintro e w1 ⟨rfl, hb⟩; have HB := Lib.hid hb; clear hb)
  go_ret2
  exact ⟨rfl, HB.out⟩
 | some l =>
  rw [hq] at C
  have C2 := C.mono (fun e w' h => cutPost_some h)
  have HP : Hid (∀ v w', OwnQ w' w.heap.size v l → Below w.heap.size w w' → CutPost (some l) w (.returned (.tuple #[v, .int .i64 0])) w') := Lib.hid (fun v w' h1 h2 => ⟨⟨v, rfl, h1⟩, h2⟩)
  generalize hn : l.length = n at *
  clear C hq e hL hp hs hn
  go_enter Tryz.func118, Tryz.ntmps118
  go_wp2_with (go_at_call 150; (with_reducible refine C2.mono ?_); rintro e w1 ⟨a, c, rfl, ho, hb⟩; have HO := Lib.hid ho; have HB := Lib.hid hb; clear hb ho)
  go_ret2
  exact HP.out _ _ HO.out HB.out
theorem parseGroupsR_any (s : ByteArray) (hs : s.size ≤ 100000) (hp : ∀ p ∈ Lib.splitN s.data.toList sepA 65, p.length ≤ 4000) (w : World) (hL : LaidQ w) : Calls Tryz.prog 119 #[.string s, .func (.func 120) #[] #[]] w (CutPost (parseQ s.data.toList) w) := by
 have C := cutR_any s ⟨#[44, 32]⟩ hs (by decide) hp w hL
 have he := emptyT s
 by_cases h0 : s.size = 0
 ·
  have hn : s.data.toList = [] := List.eq_nil_of_length_eq_zero (by rw [← sizeOf]; exact h0)
  rw [decide_eq_true h0] at he
  have HP : Hid (∀ w', Below w.heap.size w w' → CutPost (parseQ s.data.toList) w (.returned (.tuple #[.slice none 0 0, .int .i64 0])) w') := Lib.hid (fun w' hb => by rw [hn]; exact ⟨⟨_, rfl, OwnV.nil _ _ _ _⟩, hb⟩)
  clear C h0 hn hp hs hL
  go_enter Tryz.func119, Tryz.ntmps119
  go_wp2
  go_ret2
  exact HP.out _ (Below.refl _ _)
 have hn : s.data.toList ≠ [] := fun e => h0 (by rw [sizeOf, e]; rfl)
 rw [decide_eq_false h0] at he
 have e : cutP parseR (ByteArray.mk #[44, 32]).data.toList s.data.toList = parseQ s.data.toList := by unfold parseQ; rw [if_neg hn]
 rw [e] at C
 cases hq : parseQ s.data.toList with
 | none =>
  rw [hq] at C
  have C2 := C.mono (fun e w' h => cutPost_none h)
  clear C hq e hL hp hs h0 hn
  go_enter Tryz.func119, Tryz.ntmps119
  go_wp2_with (go_at_call 150; (with_reducible refine C2.mono ?_); rintro e w1 ⟨rfl, hb⟩; have HB := Lib.hid hb; clear hb)
  go_ret2
  exact ⟨rfl, HB.out⟩
 | some l =>
  rw [hq] at C
  have C2 := C.mono (fun e w' h => cutPost_some h)
  have HP : Hid (∀ v w', OwnQ w' w.heap.size v l → Below w.heap.size w w' → CutPost (some l) w (.returned (.tuple #[v, .int .i64 0])) w') := Lib.hid (fun v w' h1 h2 => ⟨⟨v, rfl, h1⟩, h2⟩)
  generalize hln : l.length = n at *
  clear C hq e hL hp hs hln h0 hn
  go_enter Tryz.func119, Tryz.ntmps119
  go_wp2_with (go_at_call 150; (with_reducible refine C2.mono ?_); rintro e w1 ⟨a, c, rfl, ho, hb⟩; have HO := Lib.hid ho; have HB := Lib.hid hb; clear hb ho)
  go_ret2
  exact HP.out _ _ HO.out HB.out
theorem parseListQ_any (s : ByteArray) (hs : s.size ≤ 100000) (hp : ∀ p ∈ Lib.splitN s.data.toList sepA 65, p.length ≤ 4000) (w : World) (hL : LaidQ w) : Calls Tryz.prog 70 #[.string s] w (CutPost (parseQ s.data.toList) w) := by
 have C := parseGroupsR_any s hs hp w hL
 cases hq : parseQ s.data.toList with
 | none =>
  rw [hq] at C
  have C2 := C.mono (fun e w' h => cutPost_none h)
  clear C hq hL hp hs
  go_enter Tryz.func70, Tryz.ntmps70
  go_wp2_with (go_at_call 119; (with_reducible refine C2.mono ?_); rintro e w1 ⟨rfl, hb⟩; have HB := Lib.hid hb; clear hb)
  go_ret2
  exact ⟨rfl, HB.out⟩
 | some l =>
  rw [hq] at C
  have C2 := C.mono (fun e w' h => cutPost_some h)
  have HP : Hid (∀ v w', OwnQ w' w.heap.size v l → Below w.heap.size w w' → CutPost (some l) w (.returned (.tuple #[v, .int .i64 0])) w') := Lib.hid (fun v w' h1 h2 => ⟨⟨v, rfl, h1⟩, h2⟩)
  generalize hn : l.length = n at *
  clear C hq hL hp hs hn
  go_enter Tryz.func70, Tryz.ntmps70
  go_wp2_with (go_at_call 119; (with_reducible refine C2.mono ?_); rintro e w1 ⟨a, c, rfl, ho, hb⟩; have HO := Lib.hid ho; have HB := Lib.hid hb; clear hb ho)
  go_ret2
  exact HP.out _ _ HO.out HB.out
end
section
open Go.RowKit
theorem infoSl : (Tryz.prog.info? 39).map (fun i => (i.zero, i.size, i.bytes)) = some (some (.slice none 0 0), 1, 24) := by kernel_rfl
theorem kinds_apart {w : World} {b1 b2 s1 s2 n1 n2 : Nat} {v1 v2 : Value} {x1 x2 : List Value} {e1 e2 : TypeId} (h1 : w.ownsRow b1 e1 s1 v1 n1 x1) (h2 : w.ownsRow b2 e2 s2 v2 n2 x2) (he : e1 ≠ e2) : v1.ownBlock = none ∨ v1.ownBlock ≠ v2.ownBlock := by
 rcases h1.2 with ⟨rfl, _⟩ | ⟨g, cap, cur, rfl, hb, hg, _⟩
 ·
  exact .inl rfl
 ·
  refine .inr fun e => ?_
  rcases h2.2 with ⟨rfl, _⟩ | ⟨g', cap', cur', rfl, hb', hg', _⟩
  ·
   simp [Value.ownBlock] at e
  ·
   simp only [Value.ownBlock, Option.some.injEq] at e
   subst e
   rw [hg] at hg'
   simp only [Option.some.injEq, Obj.cells.injEq] at hg'
   exact he hg'.2.1
def OwnGs (w : World) (B : Nat) (v : Value) (L : List Gv) : Prop := OwnV 39 1 w B v (L.map fun x => [x.2]) ∧ ∀ x ∈ L, OwnQ w B x.2 x.1
theorem OwnGs.nil (w : World) (B : Nat) : OwnGs w B (.slice none 0 0) [] := ⟨OwnV.nil _ _ _ _, fun x hx => by simp at hx⟩
theorem OwnGs.on {w w' : World} {B : Nat} {v : Value} {L : List Gv} (h : OwnGs w B v L) (hb : Below w.heap.size w w') : OwnGs w' B v L := ⟨OwnV.on h.1 hb, fun x hx => OwnV.on (h.2 x hx) hb⟩
theorem OwnGs.mono {w : World} {B B' : Nat} {v : Value} {L : List Gv} (h : OwnGs w B v L) (hb : B' ≤ B) : OwnGs w B' v L := ⟨OwnV.mono h.1 hb, fun x hx => OwnV.mono (h.2 x hx) hb⟩
theorem OwnGs.holds {w : World} {B : Nat} {v : Value} {L : List Gv} (h : OwnGs w B v L) : HoldGs w v L := ⟨OwnV.holds h.1, fun x hx => OwnV.holds (h.2 x hx)⟩
theorem OwnGs.app {w w' : World} {o : Obj} {B : Nat} {v v' sv : Value} {L : List Gv} {x : List Rl} (h : OwnGs w B v L) (hx : OwnQ w B sv x) (hown : w'.ownsRow B 39 1 v' (L.length + 1) ((L.map fun x => [x.2]).flatten ++ [sv])) (hg : (w.alloc o).grownBy w' v.ownBlock) : OwnGs w' B v' (L ++ [(x, sv)]) := by
 have key : ∀ (s : Value) (y : List Rl), OwnQ w B s y → OwnQ w' B s y := fun s y hy => ⟨hy.1, World.ownsRow.kept (World.ownsRow.alloc hy.2 o) hg (kinds_apart hy.2 h.1.2 (by decide))⟩
 refine ⟨?_, fun y hy => ?_⟩
 ·
  rw [List.map_append]
  exact OwnV.app h.1.1 rfl (by rw [List.length_map]; exact hown)
 ·
  rcases List.mem_append.1 hy with e | e
  ·
   exact key _ _ (h.2 y e)
  ·
   rw [List.mem_singleton.1 e]; exact key _ _ hx
def CutPostG (o : Option (List (List Rl))) (w : World) (e : Ending) (w' : World) : Prop := (match o with
 | some l => ∃ v L, e = .returned (.tuple #[v, .int .i64 0]) ∧ fsts L = l ∧ OwnGs w' w.heap.size v L
 | none => e = .returned (.tuple #[.slice none 0 0, .int .i64 2])) ∧ Below w.heap.size w w'
theorem cutG_any (s sep : ByteArray) (hs : s.size ≤ 100000) (h1 : 1 ≤ sep.size) (hp : ∀ p ∈ Lib.splitN s.data.toList sep.data.toList 65, p.length ≤ 100000 ∧ ∀ q ∈ Lib.splitN p sepG 65, q.length ≤ 4000) (w : World) (hL : LaidQ w) :
  Calls Tryz.prog 149 #[.string s, .string sep, .func (.func 118) #[] #[]] w (CutPostG (cutP parseG sep.data.toList s.data.toList) w) := by
 obtain ⟨i0, hi, hz0, hz1, hz2'⟩ := info_parts infoSl
 have EN : ∀ args w, (callFunc 118 args).run Tryz.prog w = .ok (.enter 118 args) w := enters_of Tryz.func118 (by kernel_rfl) rfl
 have SP := splitN_any s sep hs h1 w hL
 have hle : (Lib.splitN s.data.toList sep.data.toList 65).length ≤ 65 := by
  unfold Lib.splitN
  have := splitK_len sep.data.toList (min 65 (s.data.toList.length + 1) - 1) s.data.toList
  omega
 obtain ⟨ps, hps⟩ : ∃ ps, Lib.splitN s.data.toList sep.data.toList 65 = ps := ⟨_, rfl⟩
 have hcp : cutP parseG sep.data.toList s.data.toList = if 64 < ps.length then none else ps.mapM parseG := by unfold cutP; rw [hps]
 rw [hps] at SP hle hp
 rw [hcp]
 obtain ⟨m, hm⟩ : ∃ m, ps.length = m := ⟨_, rfl⟩
 rw [hm] at SP hle ⊢
 have HPL := Lib.hid hp
 have HM := Lib.hid hm
 have HL := Lib.hid hL
 have FU := fun a c W => fullS_any a m c (by omega) W
 clear hcp hps hp hm hL hs h1
 by_cases h64 : 64 < m
 ·
  rw [if_pos h64]
  rw [decide_eq_true h64] at FU
  clear h64
  go_enter Tryz.func149, Tryz.ntmps149
  go_wp2_with (first
   | (go_at_call 174; (with_reducible refine SP.mono ?_); rintro e w1 ⟨⟨a, c, rfl, -⟩, hb⟩; have HB := Lib.hid hb; clear hb)
   | (go_at_call 175; (with_reducible refine (FU _ _ _).mono ?_); rintro e w2 ⟨rfl, hb⟩; have HB2 := Lib.hid (HB.out.trans (hb.mono HB.out.size)); clear hb))
  go_ret2
  exact ⟨rfl, HB2.out⟩
 rw [if_neg h64]
 rw [decide_eq_false h64] at FU
 obtain ⟨R, hR⟩ : ∃ R, ps.mapM parseG = R := ⟨_, rfl⟩
 have HR0 : Hid (restM parseG [] (ps.drop 0) = R) := Lib.hid (by unfold restM; rw [List.drop_zero, hR]; cases R <;> simp)
 rw [hR]
 have HYES : Hid (∀ (l : List Gv) v w', R = some (fsts l) → OwnGs w' w.heap.size v l → Below w.heap.size w w' → CutPostG R w (.returned (.tuple #[v, .int .i64 0])) w') := Lib.hid (fun l v w' h1 h2 h3 => by unfold CutPostG; rw [h1]; exact ⟨⟨v, l, rfl, rfl, h2⟩, h3⟩)
 have HNO : Hid (R = none → ∀ w', Below w.heap.size w w' → CutPostG R w (.returned (.tuple #[.slice none 0 0, .int .i64 2])) w') := Lib.hid (fun h1 w' h3 => by unfold CutPostG; rw [h1]; exact ⟨rfl, h3⟩)
 clear hR h64
 go_enter Tryz.func149, Tryz.ntmps149
 go_wp2_with (first
  | (go_at_call 174; (with_reducible refine SP.mono ?_); rintro e w1 ⟨⟨a, c, rfl, hh⟩, hb⟩; have HH := Lib.hid hh; have HB := Lib.hid hb; clear hb hh)
  | (go_at_call 175; (with_reducible refine (FU _ _ _).mono ?_); rintro e w2 ⟨rfl, hb⟩; have HB2 := Lib.hid (HB.out.trans (hb.mono HB.out.size)); have HH2 := Lib.hid (HH.out.on hb); clear hb))
 clear SP FU
 obtain ⟨a', c', b, o, e, -, ha, hcell⟩ := HH2.out
 rw [HM.out] at e ha
 simp only [Value.slice.injEq] at e
 obtain ⟨rfl, -, rfl⟩ := e
 have HC := Lib.hid hcell
 have HL2 := Lib.hid (HL.out.on HB2.out)
 clear hcell HH HH2 HB
 have hsz2 := HB2.out.size
 go_loopw [9, 21] (fun u i wr => ∃ (k : Nat) (xs : List Gv), k ≤ m ∧ i = .int .i64 k ∧ Hid (xs.length = k) ∧ Hid (restM parseG (fsts xs) (ps.drop k) = R) ∧ Hid (OwnGs wr w2.heap.size u xs) ∧ Hid (Below w2.heap.size w2 wr)) (fun _ i _ => m - (intOf i).toNat)
 case atStart => exact ⟨0, [], by omega, rfl, Lib.hid rfl, HR0, Lib.hid (OwnGs.nil _ _), Lib.hid (Below.refl _ _)⟩
 case round =>
  clear HR0
  obtain ⟨k, xs, hk, rfl, HXL, HR, HO, HBX⟩ := hrel
  have HB := Lib.hid (HB2.out.trans (HBX.out.mono hsz2))
  have hsz := HB.out.size
  by_cases hlt : k < m
  ·
   obtain ⟨rfl, hbw⟩ := ha (by omega)
   obtain ⟨p, hpk⟩ : ∃ p, ps[k]? = some p := ⟨_, List.getElem?_eq_getElem (by rw [HM.out]; exact hlt)⟩
   have c0 := HC.out k p hpk
   rw [← HBX.out.cell (p := ⟨b, o + k, none⟩) hbw] at c0
   have hpl := HPL.out p (List.mem_of_getElem? hpk)
   have PA := fun W (hb : Below wr.heap.size wr W) => parseGroup_any ⟨p.toArray⟩ (by rw [sizeOf, bytesOf]; exact hpl.1) (by rw [bytesOf]; exact hpl.2) W ((HL2.out.on HBX.out).on hb)
   rw [bytesOf] at PA
   have hdr := drop_atQ hpk
   cases hq : parseG p with
   | none =>
    have G := Lib.hid (HNO.out (by have := HR.out; rw [hdr, restM_bad hq] at this; exact this.symm))
    rw [hq] at PA
    have PA := fun W hb => (PA W hb).mono (fun e w' h => cutPost_none h)
    generalize (⟨p.toArray⟩ : ByteArray) = P at *
    clear hpk hpl hdr hq HR HO HYES HNO hi hz0 hz1 hz2'
    go_wp2_with (go_at_fn 118; (with_reducible refine (PA _ (Below.refl _ _)).mono ?_); rintro e w4 ⟨rfl, hb⟩; have HB4 := Lib.hid (HB.out.trans (hb.mono hsz)); clear hb PA)
    go_ret2
    exact G.out _ HB4.out
   | some x =>
    have HR2 : Hid (∀ sv, restM parseG (fsts (xs ++ [(x, sv)])) (ps.drop (k + 1)) = R) := Lib.hid (fun sv => by have := HR.out; rw [hdr, restM_step hq] at this; rw [show fsts (xs ++ [(x, sv)]) = fsts xs ++ [x] by simp [fsts]]; exact this)
    rw [hq] at PA
    have PA := fun W hb => (PA W hb).mono (fun e w' h => cutPost_some h)
    have hxl : ∀ sv, (xs ++ [(x, sv)]).length = k + 1 := fun sv => by rw [List.length_append, HXL.out]; rfl
    have HXL2 := Lib.hid hxl
    generalize (⟨p.toArray⟩ : ByteArray) = P at *
    obtain ⟨xn, hxn⟩ : ∃ xn, x.length = xn := ⟨_, rfl⟩
    rw [hxn] at PA
    clear hpk hpl hdr hq HR HYES HNO hxl hxn
    go_wp2_with (first
     | (go_at_fn 118; (with_reducible refine (PA _ (Below.refl _ _)).mono ?_); rintro e w4 ⟨ga, gc, rfl, ho, hb⟩; have HB4 := Lib.hid (HB.out.trans (hb.mono hsz)); have HBX4 := Lib.hid (HBX.out.trans (hb.mono HBX.out.size)); have HO4 := Lib.hid (OwnGs.on HO.out hb); have HN4 := Lib.hid (OwnV.mono ho HBX.out.size); have hz4 := HB4.out.size; clear hb PA HO ho)
     | (at_builtin; refine wpList_append_own _ rfl _ _ 38 rfl w2.heap.size 39 i0 _ 1 24 Tryz.underlying38 hi hz0 hz1 hz2' rfl (by decide) _ _ _ rfl (World.ownsRow.alloc HO4.out.1.2 _) ⟨w4.heap.size, 0, none⟩ 1 1 [.slice ga xn gc] rfl rfl ?c1 ?c2 ?c3 ?c4 ?c5 ?_))
    case c1 =>
     intro j u hj
     match j, hj with
     | 0, hj => simp at hj; subst hj; simp [Addr.add]
    case c2 => intro u hu; simp at hu; subst hu; rfl
    case c3 => rw [List.length_map, HXL.out]; unfold maxLen; omega
    case c4 => rw [List.length_map, HXL.out]; omega
    case c5 => have := HBX4.out.size; simp; omega
    intro v' w5 hown' hgrow _
    have HO5 : Hid (OwnGs w5 w2.heap.size v' (xs ++ [(x, .slice ga xn gc)])) := Lib.hid (OwnGs.app HO4.out HN4.out (by simpa using hown') hgrow)
    have HB5 : Hid (Below w2.heap.size w2 w5) := Lib.hid (OwnV.below HBX4.out HO4.out.1 hgrow (Nat.le_refl _) HBX4.out.size)
    have HR5 := Lib.hid (HR2.out (.slice ga xn gc))
    have HXL5 := Lib.hid (HXL2.out (.slice ga xn gc))
    clear hown' hgrow
    go_wp2
    go_roundw
    case rel => exact ⟨k + 1, _, by omega, by go_num, HXL5, HR5, HO5, HB5⟩
    case measure => simp [intOf]; omega
  ·
   obtain rfl : k = m := by omega
   have HE : Hid (R = some (fsts xs)) := Lib.hid (by have := HR.out; rw [List.drop_of_length_le (by rw [HM.out]; omega), restM_nil] at this; exact this.symm)
   clear hlt HR HNO
   go_wp2
   go_ret2
   exact HYES.out _ _ _ HE.out (OwnGs.mono HO.out hsz2) HB.out
end
section
open Go.RowKit
theorem cutPostG_some {l : List (List Rl)} {w w' : World} {e : Ending} (h : CutPostG (some l) w e w') : ∃ a n c L, e = .returned (.tuple #[.slice a n c, .int .i64 0]) ∧ fsts L = l ∧ OwnGs w' w.heap.size (.slice a n c) L ∧ Below w.heap.size w w' := by
 obtain ⟨⟨v, L, he, hf, ho⟩, hb⟩ := h
 obtain ⟨a, c, hv⟩ := OwnV.form ho.1
 subst hv
 exact ⟨a, _, c, L, he, hf, ho, hb⟩
theorem cutPostG_none {w w' : World} {e : Ending} (h : CutPostG none w e w') : e = .returned (.tuple #[.slice none 0 0, .int .i64 2]) ∧ Below w.heap.size w w' := h
theorem parseGroupsG_any (s : ByteArray) (hs : s.size ≤ 100000) (hp : ∀ p ∈ Lib.splitN s.data.toList sepA 65, p.length ≤ 100000 ∧ ∀ q ∈ Lib.splitN p sepG 65, q.length ≤ 4000) (w : World) (hL : LaidQ w) : Calls Tryz.prog 117 #[.string s, .func (.func 118) #[] #[]] w (CutPostG (parseA s.data.toList) w) := by
 have C := cutG_any s ⟨#[44, 32]⟩ hs (by decide) hp w hL
 have he := emptyT s
 by_cases h0 : s.size = 0
 ·
  have hn : s.data.toList = [] := List.eq_nil_of_length_eq_zero (by rw [← sizeOf]; exact h0)
  rw [decide_eq_true h0] at he
  have HP : Hid (∀ w', Below w.heap.size w w' → CutPostG (parseA s.data.toList) w (.returned (.tuple #[.slice none 0 0, .int .i64 0])) w') := Lib.hid (fun w' hb => by rw [hn]; exact ⟨⟨_, [], rfl, rfl, OwnGs.nil _ _⟩, hb⟩)
  clear C h0 hn hp hs hL
  go_enter Tryz.func117, Tryz.ntmps117
  go_wp2
  go_ret2
  exact HP.out _ (Below.refl _ _)
 have hn : s.data.toList ≠ [] := fun e => h0 (by rw [sizeOf, e]; rfl)
 rw [decide_eq_false h0] at he
 have e : cutP parseG (ByteArray.mk #[44, 32]).data.toList s.data.toList = parseA s.data.toList := by unfold parseA; rw [if_neg hn]
 rw [e] at C
 cases hq : parseA s.data.toList with
 | none =>
  rw [hq] at C
  have C2 := C.mono (fun e w' h => cutPostG_none h)
  clear C hq e hL hp hs h0 hn
  go_enter Tryz.func117, Tryz.ntmps117
  go_wp2_with (go_at_call 149; (with_reducible refine C2.mono ?_); rintro e w1 ⟨rfl, hb⟩; have HB := Lib.hid hb; clear hb)
  go_ret2
  exact ⟨rfl, HB.out⟩
 | some l =>
  rw [hq] at C
  have C2 := C.mono (fun e w' h => cutPostG_some h)
  have HP : Hid (∀ v L w', fsts L = l → OwnGs w' w.heap.size v L → Below w.heap.size w w' → CutPostG (some l) w (.returned (.tuple #[v, .int .i64 0])) w') := Lib.hid (fun v L w' h0 h1 h2 => ⟨⟨v, L, rfl, h0, h1⟩, h2⟩)
  clear C hq e hL hp hs h0 hn
  go_enter Tryz.func117, Tryz.ntmps117
  go_wp2_with (go_at_call 149; (with_reducible refine C2.mono ?_); rintro e w1 ⟨a, n, c, L, rfl, hf, ho, hb⟩; have HF := Lib.hid hf; have HO := Lib.hid ho; have HB := Lib.hid hb; clear hb ho hf)
  go_ret2
  exact HP.out _ _ _ HF.out HO.out HB.out
theorem parseAllQ_any (s : ByteArray) (hs : s.size ≤ 100000) (hp : ∀ p ∈ Lib.splitN s.data.toList sepA 65, p.length ≤ 100000 ∧ ∀ q ∈ Lib.splitN p sepG 65, q.length ≤ 4000) (w : World) (hL : LaidQ w) : Calls Tryz.prog 69 #[.string s] w (CutPostG (parseA s.data.toList) w) := by
 have C := parseGroupsG_any s hs hp w hL
 cases hq : parseA s.data.toList with
 | none =>
  rw [hq] at C
  have C2 := C.mono (fun e w' h => cutPostG_none h)
  clear C hq hL hp hs
  go_enter Tryz.func69, Tryz.ntmps69
  go_wp2_with (go_at_call 117; (with_reducible refine C2.mono ?_); rintro e w1 ⟨rfl, hb⟩; have HB := Lib.hid hb; clear hb)
  go_ret2
  exact ⟨rfl, HB.out⟩
 | some l =>
  rw [hq] at C
  have C2 := C.mono (fun e w' h => cutPostG_some h)
  have HP : Hid (∀ v L w', fsts L = l → OwnGs w' w.heap.size v L → Below w.heap.size w w' → CutPostG (some l) w (.returned (.tuple #[v, .int .i64 0])) w') := Lib.hid (fun v L w' h0 h1 h2 => ⟨⟨v, L, rfl, h0, h1⟩, h2⟩)
  clear C hq hL hp hs
  go_enter Tryz.func69, Tryz.ntmps69
  go_wp2_with (go_at_call 117; (with_reducible refine C2.mono ?_); rintro e w1 ⟨a, n, c, L, rfl, hf, ho, hb⟩; have HF := Lib.hid hf; have HO := Lib.hid ho; have HB := Lib.hid hb; clear hb ho hf)
  go_ret2
  exact HP.out _ _ _ HF.out HO.out HB.out
end
section
open Go.RowKit
theorem join_snocQ (sep x : Bs) : ∀ (ps : List Bs), ps ≠ [] → Lib.join (ps ++ [x]) sep = Lib.join ps sep ++ (sep ++ x)
 | [], h => absurd rfl h
 | [p], _ => by
  have : [p] ++ [x] = p :: x :: [] := rfl
  rw [this, join_two, Lib.join_one, Lib.join_one]
 | p :: q :: ps, _ => by
  have ih := join_snocQ sep x (q :: ps) (by simp)
  have e : (p :: q :: ps) ++ [x] = p :: q :: (ps ++ [x]) := rfl
  have e2 : (q :: ps) ++ [x] = q :: (ps ++ [x]) := rfl
  rw [e, join_two, ← e2, ih, join_two]
  simp
theorem take_snocQ {α : Type} {l : List α} {k : Nat} {x : α} (h : l[k]? = some x) : l.take (k + 1) = l.take k ++ [x] := by
 rw [List.take_add_one, h]; rfl
theorem join6_any (sep : ByteArray) (hsep : sep.size ≤ 10) (v : Value) (ls : List Bs) (hl : ls.length ≤ 90000) (hs : ∀ p ∈ ls, p.length ≤ 10000000) (w : World) (h : HoldT w v ls) :
  Calls Tryz.prog 21 #[v, .string sep] w fun e w' => e = .returned (.string (bsT (Lib.join ls sep.data.toList))) ∧ w = w' := by
 obtain ⟨a, c, b, o, rfl, hc, ha, hcell⟩ := h
 have HC := Lib.hid hcell
 have HS := Lib.hid hs
 have HJL : Hid (∀ k, (Lib.join (ls.take k) sep.data.toList).length ≤ 90000 * 10000010) := Lib.hid (fun k => by
  have h1 := joinM_len sep.data.toList 10000000 (ls.take k) (fun p hp => hs p (List.mem_of_mem_take hp))
  have h2 : (ls.take k).length ≤ 90000 := Nat.le_trans (List.length_take_le' _ _) hl
  have h3 : (ls.take k).length * (10000000 + sep.data.toList.length) ≤ 90000 * 10000010 := Nat.mul_le_mul h2 (by rw [← sizeOf]; omega)
  omega)
 obtain ⟨n, hN⟩ : ∃ n, ls.length = n := ⟨_, rfl⟩
 rw [hN] at hc ha hl ⊢
 have HN := Lib.hid hN
 clear hcell hN hs
 go_enter Tryz.func21, Tryz.ntmps21
 go_wp2
 go_loop [5, 6] (fun z i => ∃ (k : Nat) (S : ByteArray), k ≤ n ∧ i = .int .i64 k ∧ z = .string S ∧ S.size ≤ 900000900000 ∧ Hid (S.data.toList = Lib.join (ls.take k) sep.data.toList)) (fun _ i => n - (intOf i).toNat)
 case atStart => exact ⟨0, ⟨#[]⟩, by omega, rfl, rfl, by decide, Lib.hid rfl⟩
 case round =>
  obtain ⟨k, S, hk, rfl, rfl, hS, HZ⟩ := hrel
  by_cases hlt : k < n
  ·
   obtain ⟨rfl, hbw⟩ := ha (by omega)
   obtain ⟨p, hp⟩ : ∃ p, ls[k]? = some p := ⟨_, List.getElem?_eq_getElem (by rw [HN.out]; exact hlt)⟩
   have c0 := HC.out k p hp
   have hpl := HS.out p (List.mem_of_getElem? hp)
   have hj := HJL.out (k + 1)
   have hts := take_snocQ hp
   obtain ⟨P, hP⟩ : ∃ P : ByteArray, (⟨p.toArray⟩ : ByteArray) = P := ⟨_, rfl⟩
   have hPL : P.data.toList = p := by rw [← hP]
   have hPs : P.size ≤ 10000000 := by rw [sizeOf, hPL]; exact hpl
   rw [hP] at c0
   by_cases h0 : k = 0
   ·
    subst h0
    have HZ2 : Hid ((S ++ P).data.toList = Lib.join (ls.take (0 + 1)) sep.data.toList) := Lib.hid (by
     rw [hts, ByteArray.data_append, Array.toList_append, HZ.out, hPL]
     simp [Lib.join, List.intercalate])
    have hs2 : (S ++ P).size ≤ 900000900000 := by rw [sizeOf, HZ2.out]; omega
    have q3 : ¬ 9223372036854775807 < S.size + P.size := by omega
    rw [Nat.add_zero] at c0
    clear hp hP hPL hj hts hpl
    go_wp2
    go_round
    case rel => exact ⟨1, _, by omega, rfl, rfl, hs2, HZ2⟩
    case measure => simp [intOf]; omega
   ·
    have hne : ls.take k ≠ [] := fun e => by
     have := congrArg List.length e
     rw [List.length_take, HN.out] at this
     simp at this; omega
    have HZ2 : Hid (((S ++ sep) ++ P).data.toList = Lib.join (ls.take (k + 1)) sep.data.toList) := Lib.hid (by
     rw [hts, join_snocQ _ _ _ hne, ByteArray.data_append, Array.toList_append, ByteArray.data_append, Array.toList_append, HZ.out, hPL, List.append_assoc])
    have hs2 : ((S ++ sep) ++ P).size ≤ 900000900000 := by rw [sizeOf, HZ2.out]; omega
    have q2 : ¬ 9223372036854775807 < S.size + sep.size := by omega
    have q4 : (S ++ sep).size = S.size + sep.size := ByteArray.size_append
    have q3 : ¬ 9223372036854775807 < S.size + sep.size + P.size := by omega
    have hk0 : 0 < k := by omega
    clear hp hP hPL hj hts hpl hne h0
    go_wp2
    go_round
    case rel => exact ⟨k + 1, _, by omega, by go_num, rfl, hs2, HZ2⟩
    case measure => simp [intOf]; omega
  ·
   obtain rfl : k = n := by omega
   have HE : Hid (bsT (Lib.join ls sep.data.toList) = S) := Lib.hid (by
    have := HZ.out
    rw [List.take_of_length_le (by rw [HN.out]; omega)] at this
    rw [← this])
   clear hlt
   go_wp2
   go_ret
   exact ⟨by rw [HE.out]; rfl, rfl⟩
end
end Go.Proofs.YtkbkaeefdhkgdaaGreatDoor
