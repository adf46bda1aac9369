import Derived.Test.YtnnagboeimeiiaaGreatDoorWQCut
import Derived.Test.YtnnagboeimeiiaaGreatDoorWQPParse
import Derived.Test.YtnnagboeimeiiaaGreatDoorWUPrint1
import Derived.Test.YtnnagboeimeiiaaGreatDoorWSPGet
import Derived.Test.YtnnagboeimeiiaaGreatDoorWSPWords2
namespace Go.Proofs.YtnnagboeimeiiaaGreatDoor
open Go.RowKit
theorem cutPost_some {l : List Rl} {w w' : World} {e : Ending} (h : CutPost (some l) w e w') : ∃ a c, e = .returned (.tuple #[.slice a l.length c, .int .i64 0]) ∧ OwnQ w' w.heap.size (.slice a l.length c) l ∧ Below w.heap.size w w' := by
 obtain ⟨⟨v, he, ho⟩, hb⟩ := h
 obtain ⟨a, c, hv⟩ := OwnV.form ho
 rw [List.length_map] at hv
 subst hv
 exact ⟨a, c, he, ho, hb⟩
theorem cutPost_none {w w' : World} {e : Ending} (h : CutPost none w e w') : e = .returned (.tuple #[.slice none 0 0, .int .i64 2]) ∧ Below w.heap.size w w' := h
set_option maxHeartbeats 4000000 in
theorem parseGroup_any (s : ByteArray) (hs : s.size ≤ 100000) (hp : ∀ p ∈ Lib.splitN s.data.toList sepG 65, p.length ≤ 4000) (w : World) (hL : LaidQ w) : Calls Tryz.prog 135 #[.string s] w (CutPost (parseG s.data.toList) w) := by
 have C := cutR_any s ⟨#[32, 124, 32]⟩ hs (by decide) hp w hL
 have e : cutP parseR (ByteArray.mk #[32, 124, 32]).data.toList s.data.toList = parseG s.data.toList := rfl
 rw [e] at C
 cases hq : parseG s.data.toList with
 | none =>
   rw [hq] at C
   have C2 := C.mono (fun e w' h => cutPost_none h)
   clear C hq e hL hp hs
   go_enter Tryz.func135, Tryz.ntmps135
   go_wp2_with (go_at_call 169; (with_reducible refine C2.mono ?_); rintro e w1 ⟨rfl, hb⟩; have HB := Lib.hid hb; clear hb)
   go_ret2
   exact ⟨rfl, HB.out⟩
 | some l =>
   rw [hq] at C
   have C2 := C.mono (fun e w' h => cutPost_some h)
   have HP : Hid (∀ v w', OwnQ w' w.heap.size v l → Below w.heap.size w w' → CutPost (some l) w (.returned (.tuple #[v, .int .i64 0])) w') := Lib.hid (fun v w' h1 h2 => ⟨⟨v, rfl, h1⟩, h2⟩)
   generalize hn : l.length = n at *
   clear C hq e hL hp hs hn
   go_enter Tryz.func135, Tryz.ntmps135
   go_wp2_with (go_at_call 169; (with_reducible refine C2.mono ?_); rintro e w1 ⟨a, c, rfl, ho, hb⟩; have HO := Lib.hid ho; have HB := Lib.hid hb; clear hb ho)
   go_ret2
   exact HP.out _ _ HO.out HB.out
set_option maxHeartbeats 4000000 in
theorem parseGroupsR_any (s : ByteArray) (hs : s.size ≤ 100000) (hp : ∀ p ∈ Lib.splitN s.data.toList sepA 65, p.length ≤ 4000) (w : World) (hL : LaidQ w) : Calls Tryz.prog 136 #[.string s, .func (.func 137) #[] #[]] w (CutPost (parseQ s.data.toList) w) := by
 have C := cutR_any s ⟨#[44, 32]⟩ hs (by decide) hp w hL
 have he := emptyT s
 by_cases h0 : s.size = 0
 · have hn : s.data.toList = [] := List.eq_nil_of_length_eq_zero (by rw [← sizeOf]; exact h0)
   rw [decide_eq_true h0] at he
   have HP : Hid (∀ w', Below w.heap.size w w' → CutPost (parseQ s.data.toList) w (.returned (.tuple #[.slice none 0 0, .int .i64 0])) w') := Lib.hid (fun w' hb => by rw [hn]; exact ⟨⟨_, rfl, OwnV.nil _ _ _ _⟩, hb⟩)
   clear C h0 hn hp hs hL
   go_enter Tryz.func136, Tryz.ntmps136
   go_wp2
   go_ret2
   exact HP.out _ (Below.refl _ _)
 have hn : s.data.toList ≠ [] := fun e => h0 (by rw [sizeOf, e]; rfl)
 rw [decide_eq_false h0] at he
 have e : cutP parseR (ByteArray.mk #[44, 32]).data.toList s.data.toList = parseQ s.data.toList := by unfold parseQ; rw [if_neg hn]
 rw [e] at C
 cases hq : parseQ s.data.toList with
 | none =>
   rw [hq] at C
   have C2 := C.mono (fun e w' h => cutPost_none h)
   clear C hq e hL hp hs h0 hn
   go_enter Tryz.func136, Tryz.ntmps136
   go_wp2_with (go_at_call 169; (with_reducible refine C2.mono ?_); rintro e w1 ⟨rfl, hb⟩; have HB := Lib.hid hb; clear hb)
   go_ret2
   exact ⟨rfl, HB.out⟩
 | some l =>
   rw [hq] at C
   have C2 := C.mono (fun e w' h => cutPost_some h)
   have HP : Hid (∀ v w', OwnQ w' w.heap.size v l → Below w.heap.size w w' → CutPost (some l) w (.returned (.tuple #[v, .int .i64 0])) w') := Lib.hid (fun v w' h1 h2 => ⟨⟨v, rfl, h1⟩, h2⟩)
   generalize hln : l.length = n at *
   clear C hq e hL hp hs hln h0 hn
   go_enter Tryz.func136, Tryz.ntmps136
   go_wp2_with (go_at_call 169; (with_reducible refine C2.mono ?_); rintro e w1 ⟨a, c, rfl, ho, hb⟩; have HO := Lib.hid ho; have HB := Lib.hid hb; clear hb ho)
   go_ret2
   exact HP.out _ _ HO.out HB.out
set_option maxHeartbeats 4000000 in
theorem parseListQ_any (s : ByteArray) (hs : s.size ≤ 100000) (hp : ∀ p ∈ Lib.splitN s.data.toList sepA 65, p.length ≤ 4000) (w : World) (hL : LaidQ w) : Calls Tryz.prog 85 #[.string s] w (CutPost (parseQ s.data.toList) w) := by
 have C := parseGroupsR_any s hs hp w hL
 cases hq : parseQ s.data.toList with
 | none =>
   rw [hq] at C
   have C2 := C.mono (fun e w' h => cutPost_none h)
   clear C hq hL hp hs
   go_enter Tryz.func85, Tryz.ntmps85
   go_wp2_with (go_at_call 136; (with_reducible refine C2.mono ?_); rintro e w1 ⟨rfl, hb⟩; have HB := Lib.hid hb; clear hb)
   go_ret2
   exact ⟨rfl, HB.out⟩
 | some l =>
   rw [hq] at C
   have C2 := C.mono (fun e w' h => cutPost_some h)
   have HP : Hid (∀ v w', OwnQ w' w.heap.size v l → Below w.heap.size w w' → CutPost (some l) w (.returned (.tuple #[v, .int .i64 0])) w') := Lib.hid (fun v w' h1 h2 => ⟨⟨v, rfl, h1⟩, h2⟩)
   generalize hn : l.length = n at *
   clear C hq hL hp hs hn
   go_enter Tryz.func85, Tryz.ntmps85
   go_wp2_with (go_at_call 136; (with_reducible refine C2.mono ?_); rintro e w1 ⟨a, c, rfl, ho, hb⟩; have HO := Lib.hid ho; have HB := Lib.hid hb; clear hb ho)
   go_ret2
   exact HP.out _ _ HO.out HB.out
end Go.Proofs.YtnnagboeimeiiaaGreatDoor
namespace Go.Proofs.YtnnagboeimeiiaaGreatDoor
open Go.RowKit
theorem infoSl : (Tryz.prog.info? 39).map (fun i => (i.zero, i.size, i.bytes)) = some (some (.slice none 0 0), 1, 24) := by kernel_rfl
theorem kinds_apart {w : World} {b1 b2 s1 s2 n1 n2 : Nat} {v1 v2 : Value} {x1 x2 : List Value} {e1 e2 : TypeId} (h1 : w.ownsRow b1 e1 s1 v1 n1 x1) (h2 : w.ownsRow b2 e2 s2 v2 n2 x2) (he : e1 ≠ e2) : v1.ownBlock = none ∨ v1.ownBlock ≠ v2.ownBlock := by
 rcases h1.2 with ⟨rfl, _⟩ | ⟨g, cap, cur, rfl, hb, hg, _⟩
 · exact .inl rfl
 · refine .inr fun e => ?_
   rcases h2.2 with ⟨rfl, _⟩ | ⟨g', cap', cur', rfl, hb', hg', _⟩
   · simp [Value.ownBlock] at e
   · simp only [Value.ownBlock, Option.some.injEq] at e
     subst e
     rw [hg] at hg'
     simp only [Option.some.injEq, Obj.cells.injEq] at hg'
     exact he hg'.2.1
def OwnGs (w : World) (B : Nat) (v : Value) (L : List Gv) : Prop := OwnV 39 1 w B v (L.map fun x => [x.2]) ∧ ∀ x ∈ L, OwnQ w B x.2 x.1
theorem OwnGs.nil (w : World) (B : Nat) : OwnGs w B (.slice none 0 0) [] := ⟨OwnV.nil _ _ _ _, fun x hx => by simp at hx⟩
theorem OwnGs.on {w w' : World} {B : Nat} {v : Value} {L : List Gv} (h : OwnGs w B v L) (hb : Below w.heap.size w w') : OwnGs w' B v L := ⟨OwnV.on h.1 hb, fun x hx => OwnV.on (h.2 x hx) hb⟩
theorem OwnGs.mono {w : World} {B B' : Nat} {v : Value} {L : List Gv} (h : OwnGs w B v L) (hb : B' ≤ B) : OwnGs w B' v L := ⟨OwnV.mono h.1 hb, fun x hx => OwnV.mono (h.2 x hx) hb⟩
theorem OwnGs.holds {w : World} {B : Nat} {v : Value} {L : List Gv} (h : OwnGs w B v L) : HoldGs w v L := ⟨OwnV.holds h.1, fun x hx => OwnV.holds (h.2 x hx)⟩
theorem OwnGs.app {w w' : World} {o : Obj} {B : Nat} {v v' sv : Value} {L : List Gv} {x : List Rl} (h : OwnGs w B v L) (hx : OwnQ w B sv x) (hown : w'.ownsRow B 39 1 v' (L.length + 1) ((L.map fun x => [x.2]).flatten ++ [sv])) (hg : (w.alloc o).grownBy w' v.ownBlock) : OwnGs w' B v' (L ++ [(x, sv)]) := by
 have key : ∀ (s : Value) (y : List Rl), OwnQ w B s y → OwnQ w' B s y := fun s y hy => ⟨hy.1, World.ownsRow.kept (World.ownsRow.alloc hy.2 o) hg (kinds_apart hy.2 h.1.2 (by decide))⟩
 refine ⟨?_, fun y hy => ?_⟩
 · rw [List.map_append]
   exact OwnV.app h.1.1 rfl (by rw [List.length_map]; exact hown)
 · rcases List.mem_append.1 hy with e | e
   · exact key _ _ (h.2 y e)
   · rw [List.mem_singleton.1 e]; exact key _ _ hx
def CutPostG (o : Option (List (List Rl))) (w : World) (e : Ending) (w' : World) : Prop := (match o with
 | some l => ∃ v L, e = .returned (.tuple #[v, .int .i64 0]) ∧ fsts L = l ∧ OwnGs w' w.heap.size v L
 | none => e = .returned (.tuple #[.slice none 0 0, .int .i64 2])) ∧ Below w.heap.size w w'
set_option maxRecDepth 100000 in
set_option maxHeartbeats 16000000 in
theorem cutG_any (s sep : ByteArray) (hs : s.size ≤ 100000) (h1 : 1 ≤ sep.size) (hp : ∀ p ∈ Lib.splitN s.data.toList sep.data.toList 65, p.length ≤ 100000 ∧ ∀ q ∈ Lib.splitN p sepG 65, q.length ≤ 4000) (w : World) (hL : LaidQ w) :
   Calls Tryz.prog 168 #[.string s, .string sep, .func (.func 135) #[] #[]] w (CutPostG (cutP parseG sep.data.toList s.data.toList) w) := by
 obtain ⟨i0, hi, hz0, hz1, hz2'⟩ := info_parts infoSl
 have EN : ∀ args w, (callFunc 135 args).run Tryz.prog w = .ok (.enter 135 args) w := enters_of Tryz.func135 (by kernel_rfl) rfl
 have SP := splitN_any s sep hs h1 w hL
 have hle : (Lib.splitN s.data.toList sep.data.toList 65).length ≤ 65 := by
   unfold Lib.splitN
   have := splitK_len sep.data.toList (min 65 (s.data.toList.length + 1) - 1) s.data.toList
   omega
 obtain ⟨ps, hps⟩ : ∃ ps, Lib.splitN s.data.toList sep.data.toList 65 = ps := ⟨_, rfl⟩
 have hcp : cutP parseG sep.data.toList s.data.toList = if 64 < ps.length then none else ps.mapM parseG := by unfold cutP; rw [hps]
 rw [hps] at SP hle hp
 rw [hcp]
 obtain ⟨m, hm⟩ : ∃ m, ps.length = m := ⟨_, rfl⟩
 rw [hm] at SP hle ⊢
 have HPL := Lib.hid hp
 have HM := Lib.hid hm
 have HL := Lib.hid hL
 have FU := fun a c W => fullS_any a m c (by omega) W
 clear hcp hps hp hm hL hs h1
 by_cases h64 : 64 < m
 · rw [if_pos h64]
   rw [decide_eq_true h64] at FU
   clear h64
   go_enter Tryz.func168, Tryz.ntmps168
   go_wp2_with (first
     | (go_at_call 194; (with_reducible refine SP.mono ?_); rintro e w1 ⟨⟨a, c, rfl, -⟩, hb⟩; have HB := Lib.hid hb; clear hb)
     | (go_at_call 195; (with_reducible refine (FU _ _ _).mono ?_); rintro e w2 ⟨rfl, hb⟩; have HB2 := Lib.hid (HB.out.trans (hb.mono HB.out.size)); clear hb))
   go_ret2
   exact ⟨rfl, HB2.out⟩
 rw [if_neg h64]
 rw [decide_eq_false h64] at FU
 obtain ⟨R, hR⟩ : ∃ R, ps.mapM parseG = R := ⟨_, rfl⟩
 have HR0 : Hid (restM parseG [] (ps.drop 0) = R) := Lib.hid (by unfold restM; rw [List.drop_zero, hR]; cases R <;> simp)
 rw [hR]
 have HYES : Hid (∀ (l : List Gv) v w', R = some (fsts l) → OwnGs w' w.heap.size v l → Below w.heap.size w w' → CutPostG R w (.returned (.tuple #[v, .int .i64 0])) w') := Lib.hid (fun l v w' h1 h2 h3 => by unfold CutPostG; rw [h1]; exact ⟨⟨v, l, rfl, rfl, h2⟩, h3⟩)
 have HNO : Hid (R = none → ∀ w', Below w.heap.size w w' → CutPostG R w (.returned (.tuple #[.slice none 0 0, .int .i64 2])) w') := Lib.hid (fun h1 w' h3 => by unfold CutPostG; rw [h1]; exact ⟨rfl, h3⟩)
 clear hR h64
 go_enter Tryz.func168, Tryz.ntmps168
 go_wp2_with (first
   | (go_at_call 194; (with_reducible refine SP.mono ?_); rintro e w1 ⟨⟨a, c, rfl, hh⟩, hb⟩; have HH := Lib.hid hh; have HB := Lib.hid hb; clear hb hh)
   | (go_at_call 195; (with_reducible refine (FU _ _ _).mono ?_); rintro e w2 ⟨rfl, hb⟩; have HB2 := Lib.hid (HB.out.trans (hb.mono HB.out.size)); have HH2 := Lib.hid (HH.out.on hb); clear hb))
 clear SP FU
 obtain ⟨a', c', b, o, e, -, ha, hcell⟩ := HH2.out
 rw [HM.out] at e ha
 simp only [Value.slice.injEq] at e
 obtain ⟨rfl, -, rfl⟩ := e
 have HC := Lib.hid hcell
 have HL2 := Lib.hid (HL.out.on HB2.out)
 clear hcell HH HH2 HB
 have hsz2 := HB2.out.size
 go_loopw [9, 21] (fun u i wr => ∃ (k : Nat) (xs : List Gv), k ≤ m ∧ i = .int .i64 k ∧ Hid (xs.length = k) ∧ Hid (restM parseG (fsts xs) (ps.drop k) = R) ∧ Hid (OwnGs wr w2.heap.size u xs) ∧ Hid (Below w2.heap.size w2 wr)) (fun _ i _ => m - (intOf i).toNat)
 case atStart => exact ⟨0, [], by omega, rfl, Lib.hid rfl, HR0, Lib.hid (OwnGs.nil _ _), Lib.hid (Below.refl _ _)⟩
 case round =>
   clear HR0
   obtain ⟨k, xs, hk, rfl, HXL, HR, HO, HBX⟩ := hrel
   have HB := Lib.hid (HB2.out.trans (HBX.out.mono hsz2))
   have hsz := HB.out.size
   by_cases hlt : k < m
   · obtain ⟨rfl, hbw⟩ := ha (by omega)
     obtain ⟨p, hpk⟩ : ∃ p, ps[k]? = some p := ⟨_, List.getElem?_eq_getElem (by rw [HM.out]; exact hlt)⟩
     have c0 := HC.out k p hpk
     rw [← HBX.out.cell (p := ⟨b, o + k, none⟩) hbw] at c0
     have hpl := HPL.out p (List.mem_of_getElem? hpk)
     have PA := fun W (hb : Below wr.heap.size wr W) => parseGroup_any ⟨p.toArray⟩ (by rw [sizeOf, bytesOf]; exact hpl.1) (by rw [bytesOf]; exact hpl.2) W ((HL2.out.on HBX.out).on hb)
     rw [bytesOf] at PA
     have hdr := drop_atQ hpk
     cases hq : parseG p with
     | none =>
       have G := Lib.hid (HNO.out (by have := HR.out; rw [hdr, restM_bad hq] at this; exact this.symm))
       rw [hq] at PA
       have PA := fun W hb => (PA W hb).mono (fun e w' h => cutPost_none h)
       generalize (⟨p.toArray⟩ : ByteArray) = P at *
       clear hpk hpl hdr hq HR HO HYES HNO hi hz0 hz1 hz2'
       go_wp2_with (go_at_fn 135; (with_reducible refine (PA _ (Below.refl _ _)).mono ?_); rintro e w4 ⟨rfl, hb⟩; have HB4 := Lib.hid (HB.out.trans (hb.mono hsz)); clear hb PA)
       go_ret2
       exact G.out _ HB4.out
     | some x =>
       have HR2 : Hid (∀ sv, restM parseG (fsts (xs ++ [(x, sv)])) (ps.drop (k + 1)) = R) := Lib.hid (fun sv => by have := HR.out; rw [hdr, restM_step hq] at this; rw [show fsts (xs ++ [(x, sv)]) = fsts xs ++ [x] by simp [fsts]]; exact this)
       rw [hq] at PA
       have PA := fun W hb => (PA W hb).mono (fun e w' h => cutPost_some h)
       have hxl : ∀ sv, (xs ++ [(x, sv)]).length = k + 1 := fun sv => by rw [List.length_append, HXL.out]; rfl
       have HXL2 := Lib.hid hxl
       generalize (⟨p.toArray⟩ : ByteArray) = P at *
       obtain ⟨xn, hxn⟩ : ∃ xn, x.length = xn := ⟨_, rfl⟩
       rw [hxn] at PA
       clear hpk hpl hdr hq HR HYES HNO hxl hxn
       go_wp2_with (first
         | (go_at_fn 135; (with_reducible refine (PA _ (Below.refl _ _)).mono ?_); rintro e w4 ⟨ga, gc, rfl, ho, hb⟩; have HB4 := Lib.hid (HB.out.trans (hb.mono hsz)); have HBX4 := Lib.hid (HBX.out.trans (hb.mono HBX.out.size)); have HO4 := Lib.hid (OwnGs.on HO.out hb); have HN4 := Lib.hid (OwnV.mono ho HBX.out.size); have hz4 := HB4.out.size; clear hb PA HO ho)
         | (at_builtin; refine wpList_append_own _ rfl _ _ 38 rfl w2.heap.size 39 i0 _ 1 24 Tryz.underlying38 hi hz0 hz1 hz2' rfl (by decide) _ _ _ rfl (World.ownsRow.alloc HO4.out.1.2 _) ⟨w4.heap.size, 0, none⟩ 1 1 [.slice ga xn gc] rfl rfl ?c1 ?c2 ?c3 ?c4 ?c5 ?_))
       case c1 =>
         intro j u hj
         match j, hj with
         | 0, hj => simp at hj; subst hj; simp [Addr.add]
       case c2 => intro u hu; simp at hu; subst hu; rfl
       case c3 => rw [List.length_map, HXL.out]; unfold maxLen; omega
       case c4 => rw [List.length_map, HXL.out]; omega
       case c5 => have := HBX4.out.size; simp; omega
       intro v' w5 hown' hgrow _
       have HO5 : Hid (OwnGs w5 w2.heap.size v' (xs ++ [(x, .slice ga xn gc)])) := Lib.hid (OwnGs.app HO4.out HN4.out (by simpa using hown') hgrow)
       have HB5 : Hid (Below w2.heap.size w2 w5) := Lib.hid (OwnV.below HBX4.out HO4.out.1 hgrow (Nat.le_refl _) HBX4.out.size)
       have HR5 := Lib.hid (HR2.out (.slice ga xn gc))
       have HXL5 := Lib.hid (HXL2.out (.slice ga xn gc))
       clear hown' hgrow
       go_wp2
       go_roundw
       case rel => exact ⟨k + 1, _, by omega, by go_num, HXL5, HR5, HO5, HB5⟩
       case measure => simp [intOf]; omega
   · obtain rfl : k = m := by omega
     have HE : Hid (R = some (fsts xs)) := Lib.hid (by have := HR.out; rw [List.drop_of_length_le (by rw [HM.out]; omega), restM_nil] at this; exact this.symm)
     clear hlt HR HNO
     go_wp2
     go_ret2
     exact HYES.out _ _ _ HE.out (OwnGs.mono HO.out hsz2) HB.out
end Go.Proofs.YtnnagboeimeiiaaGreatDoor
namespace Go.Proofs.YtnnagboeimeiiaaGreatDoor
open Go.RowKit
theorem cutPostG_some {l : List (List Rl)} {w w' : World} {e : Ending} (h : CutPostG (some l) w e w') : ∃ a n c L, e = .returned (.tuple #[.slice a n c, .int .i64 0]) ∧ fsts L = l ∧ OwnGs w' w.heap.size (.slice a n c) L ∧ Below w.heap.size w w' := by
 obtain ⟨⟨v, L, he, hf, ho⟩, hb⟩ := h
 obtain ⟨a, c, hv⟩ := OwnV.form ho.1
 subst hv
 exact ⟨a, _, c, L, he, hf, ho, hb⟩
theorem cutPostG_none {w w' : World} {e : Ending} (h : CutPostG none w e w') : e = .returned (.tuple #[.slice none 0 0, .int .i64 2]) ∧ Below w.heap.size w w' := h
set_option maxHeartbeats 4000000 in
theorem parseGroupsG_any (s : ByteArray) (hs : s.size ≤ 100000) (hp : ∀ p ∈ Lib.splitN s.data.toList sepA 65, p.length ≤ 100000 ∧ ∀ q ∈ Lib.splitN p sepG 65, q.length ≤ 4000) (w : World) (hL : LaidQ w) : Calls Tryz.prog 134 #[.string s, .func (.func 135) #[] #[]] w (CutPostG (parseA s.data.toList) w) := by
 have C := cutG_any s ⟨#[44, 32]⟩ hs (by decide) hp w hL
 have he := emptyT s
 by_cases h0 : s.size = 0
 · have hn : s.data.toList = [] := List.eq_nil_of_length_eq_zero (by rw [← sizeOf]; exact h0)
   rw [decide_eq_true h0] at he
   have HP : Hid (∀ w', Below w.heap.size w w' → CutPostG (parseA s.data.toList) w (.returned (.tuple #[.slice none 0 0, .int .i64 0])) w') := Lib.hid (fun w' hb => by rw [hn]; exact ⟨⟨_, [], rfl, rfl, OwnGs.nil _ _⟩, hb⟩)
   clear C h0 hn hp hs hL
   go_enter Tryz.func134, Tryz.ntmps134
   go_wp2
   go_ret2
   exact HP.out _ (Below.refl _ _)
 have hn : s.data.toList ≠ [] := fun e => h0 (by rw [sizeOf, e]; rfl)
 rw [decide_eq_false h0] at he
 have e : cutP parseG (ByteArray.mk #[44, 32]).data.toList s.data.toList = parseA s.data.toList := by unfold parseA; rw [if_neg hn]
 rw [e] at C
 cases hq : parseA s.data.toList with
 | none =>
   rw [hq] at C
   have C2 := C.mono (fun e w' h => cutPostG_none h)
   clear C hq e hL hp hs h0 hn
   go_enter Tryz.func134, Tryz.ntmps134
   go_wp2_with (go_at_call 168; (with_reducible refine C2.mono ?_); rintro e w1 ⟨rfl, hb⟩; have HB := Lib.hid hb; clear hb)
   go_ret2
   exact ⟨rfl, HB.out⟩
 | some l =>
   rw [hq] at C
   have C2 := C.mono (fun e w' h => cutPostG_some h)
   have HP : Hid (∀ v L w', fsts L = l → OwnGs w' w.heap.size v L → Below w.heap.size w w' → CutPostG (some l) w (.returned (.tuple #[v, .int .i64 0])) w') := Lib.hid (fun v L w' h0 h1 h2 => ⟨⟨v, L, rfl, h0, h1⟩, h2⟩)
   clear C hq e hL hp hs h0 hn
   go_enter Tryz.func134, Tryz.ntmps134
   go_wp2_with (go_at_call 168; (with_reducible refine C2.mono ?_); rintro e w1 ⟨a, n, c, L, rfl, hf, ho, hb⟩; have HF := Lib.hid hf; have HO := Lib.hid ho; have HB := Lib.hid hb; clear hb ho hf)
   go_ret2
   exact HP.out _ _ _ HF.out HO.out HB.out
set_option maxHeartbeats 4000000 in
theorem parseAllQ_any (s : ByteArray) (hs : s.size ≤ 100000) (hp : ∀ p ∈ Lib.splitN s.data.toList sepA 65, p.length ≤ 100000 ∧ ∀ q ∈ Lib.splitN p sepG 65, q.length ≤ 4000) (w : World) (hL : LaidQ w) : Calls Tryz.prog 84 #[.string s] w (CutPostG (parseA s.data.toList) w) := by
 have C := parseGroupsG_any s hs hp w hL
 cases hq : parseA s.data.toList with
 | none =>
   rw [hq] at C
   have C2 := C.mono (fun e w' h => cutPostG_none h)
   clear C hq hL hp hs
   go_enter Tryz.func84, Tryz.ntmps84
   go_wp2_with (go_at_call 134; (with_reducible refine C2.mono ?_); rintro e w1 ⟨rfl, hb⟩; have HB := Lib.hid hb; clear hb)
   go_ret2
   exact ⟨rfl, HB.out⟩
 | some l =>
   rw [hq] at C
   have C2 := C.mono (fun e w' h => cutPostG_some h)
   have HP : Hid (∀ v L w', fsts L = l → OwnGs w' w.heap.size v L → Below w.heap.size w w' → CutPostG (some l) w (.returned (.tuple #[v, .int .i64 0])) w') := Lib.hid (fun v L w' h0 h1 h2 => ⟨⟨v, L, rfl, h0, h1⟩, h2⟩)
   clear C hq hL hp hs
   go_enter Tryz.func84, Tryz.ntmps84
   go_wp2_with (go_at_call 134; (with_reducible refine C2.mono ?_); rintro e w1 ⟨a, n, c, L, rfl, hf, ho, hb⟩; have HF := Lib.hid hf; have HO := Lib.hid ho; have HB := Lib.hid hb; clear hb ho hf)
   go_ret2
   exact HP.out _ _ _ HF.out HO.out HB.out
end Go.Proofs.YtnnagboeimeiiaaGreatDoor
namespace Go.Proofs.YtnnagboeimeiiaaGreatDoor
open Go.RowKit
theorem join_snocQ (sep x : Bs) : ∀ (ps : List Bs), ps ≠ [] → Lib.join (ps ++ [x]) sep = Lib.join ps sep ++ (sep ++ x)
 | [], h => absurd rfl h
 | [p], _ => by
   have : [p] ++ [x] = p :: x :: [] := rfl
   rw [this, join_two, Lib.join_one, Lib.join_one]
 | p :: q :: ps, _ => by
   have ih := join_snocQ sep x (q :: ps) (by simp)
   have e : (p :: q :: ps) ++ [x] = p :: q :: (ps ++ [x]) := rfl
   have e2 : (q :: ps) ++ [x] = q :: (ps ++ [x]) := rfl
   rw [e, join_two, ← e2, ih, join_two]
   simp
theorem take_snocQ {α : Type} {l : List α} {k : Nat} {x : α} (h : l[k]? = some x) : l.take (k + 1) = l.take k ++ [x] := by
 rw [List.take_add_one, h]; rfl
set_option maxRecDepth 100000 in
set_option maxHeartbeats 8000000 in
theorem join6_any (sep : ByteArray) (hsep : sep.size ≤ 10) (v : Value) (ls : List Bs) (hl : ls.length ≤ 90000) (hs : ∀ p ∈ ls, p.length ≤ 10000000) (w : World) (h : HoldT w v ls) :
   Calls Tryz.prog 33 #[v, .string sep] w fun e w' => e = .returned (.string (bsT (Lib.join ls sep.data.toList))) ∧ w = w' := by
 obtain ⟨a, c, b, o, rfl, hc, ha, hcell⟩ := h
 have HC := Lib.hid hcell
 have HS := Lib.hid hs
 have HJL : Hid (∀ k, (Lib.join (ls.take k) sep.data.toList).length ≤ 90000 * 10000010) := Lib.hid (fun k => by
   have h1 := joinM_len sep.data.toList 10000000 (ls.take k) (fun p hp => hs p (List.mem_of_mem_take hp))
   have h2 : (ls.take k).length ≤ 90000 := Nat.le_trans (List.length_take_le' _ _) hl
   have h3 : (ls.take k).length * (10000000 + sep.data.toList.length) ≤ 90000 * 10000010 := Nat.mul_le_mul h2 (by rw [← sizeOf]; omega)
   omega)
 obtain ⟨n, hN⟩ : ∃ n, ls.length = n := ⟨_, rfl⟩
 rw [hN] at hc ha hl ⊢
 have HN := Lib.hid hN
 clear hcell hN hs
 go_enter Tryz.func33, Tryz.ntmps33
 go_wp2
 go_loop [5, 6] (fun z i => ∃ (k : Nat) (S : ByteArray), k ≤ n ∧ i = .int .i64 k ∧ z = .string S ∧ S.size ≤ 900000900000 ∧ Hid (S.data.toList = Lib.join (ls.take k) sep.data.toList)) (fun _ i => n - (intOf i).toNat)
 case atStart => exact ⟨0, ⟨#[]⟩, by omega, rfl, rfl, by decide, Lib.hid rfl⟩
 case round =>
   obtain ⟨k, S, hk, rfl, rfl, hS, HZ⟩ := hrel
   by_cases hlt : k < n
   · obtain ⟨rfl, hbw⟩ := ha (by omega)
     obtain ⟨p, hp⟩ : ∃ p, ls[k]? = some p := ⟨_, List.getElem?_eq_getElem (by rw [HN.out]; exact hlt)⟩
     have c0 := HC.out k p hp
     have hpl := HS.out p (List.mem_of_getElem? hp)
     have hj := HJL.out (k + 1)
     have hts := take_snocQ hp
     obtain ⟨P, hP⟩ : ∃ P : ByteArray, (⟨p.toArray⟩ : ByteArray) = P := ⟨_, rfl⟩
     have hPL : P.data.toList = p := by rw [← hP]
     have hPs : P.size ≤ 10000000 := by rw [sizeOf, hPL]; exact hpl
     rw [hP] at c0
     by_cases h0 : k = 0
     · subst h0
       have HZ2 : Hid ((S ++ P).data.toList = Lib.join (ls.take (0 + 1)) sep.data.toList) := Lib.hid (by
         rw [hts, ByteArray.data_append, Array.toList_append, HZ.out, hPL]
         simp [Lib.join, List.intercalate])
       have hs2 : (S ++ P).size ≤ 900000900000 := by rw [sizeOf, HZ2.out]; omega
       have q3 : ¬ 9223372036854775807 < S.size + P.size := by omega
       rw [Nat.add_zero] at c0
       clear hp hP hPL hj hts hpl
       go_wp2
       go_round
       case rel => exact ⟨1, _, by omega, rfl, rfl, hs2, HZ2⟩
       case measure => simp [intOf]; omega
     · have hne : ls.take k ≠ [] := fun e => by
         have := congrArg List.length e
         rw [List.length_take, HN.out] at this
         simp at this; omega
       have HZ2 : Hid (((S ++ sep) ++ P).data.toList = Lib.join (ls.take (k + 1)) sep.data.toList) := Lib.hid (by
         rw [hts, join_snocQ _ _ _ hne, ByteArray.data_append, Array.toList_append, ByteArray.data_append, Array.toList_append, HZ.out, hPL, List.append_assoc])
       have hs2 : ((S ++ sep) ++ P).size ≤ 900000900000 := by rw [sizeOf, HZ2.out]; omega
       have q2 : ¬ 9223372036854775807 < S.size + sep.size := by omega
       have q4 : (S ++ sep).size = S.size + sep.size := ByteArray.size_append
       have q3 : ¬ 9223372036854775807 < S.size + sep.size + P.size := by omega
       have hk0 : 0 < k := by omega
       clear hp hP hPL hj hts hpl hne h0
       go_wp2
       go_round
       case rel => exact ⟨k + 1, _, by omega, by go_num, rfl, hs2, HZ2⟩
       case measure => simp [intOf]; omega
   · obtain rfl : k = n := by omega
     have HE : Hid (bsT (Lib.join ls sep.data.toList) = S) := Lib.hid (by
       have := HZ.out
       rw [List.take_of_length_le (by rw [HN.out]; omega)] at this
       rw [← this])
     clear hlt
     go_wp2
     go_ret
     exact ⟨by rw [HE.out]; rfl, rfl⟩
end Go.Proofs.YtnnagboeimeiiaaGreatDoor
namespace Go.Proofs.YtnnagboeimeiiaaGreatDoor
open Go.RowKit Go.Shelf
theorem getF_hit {fs : List Fld} {x : Bs} {k : Nat} {f : Fld} (H : hasN x (fs.take k) = false) (hfk : fs[k]? = some f) (hq : sameB f.1 x = true) : getF fs x = (f.2, true) := by
 obtain ⟨hk, e⟩ := List.getElem?_eq_some_iff.1 hfk
 have h1 : fs.find? (fun f => decide (lower f.1 = lower x)) = some f := by
   rw [List.find?_eq_some_iff_getElem]
   refine ⟨hq, k, hk, e, fun j hj => ?_⟩
   have h2 : hasN x (fs.take k) = false := H
   unfold hasN at h2
   rw [List.any_eq_false] at h2
   have := h2 fs[j] (List.mem_of_getElem? (i := j) (by rw [List.getElem?_take, if_pos hj]; exact List.getElem?_eq_getElem (by omega)))
   simpa [sameB] using this
 unfold getF
 rw [h1]
theorem getF_miss {fs : List Fld} {x : Bs} (H : hasN x fs = false) : getF fs x = ([], false) := by
 have h1 : fs.find? (fun f => decide (lower f.1 = lower x)) = none := by
   rw [List.find?_eq_none]
   intro f hf
   unfold hasN at H
   rw [List.any_eq_false] at H
   simpa [sameB] using H f hf
 unfold getF
 rw [h1]
def GetVPost (x : Bs) (fs : List Fld) (w : World) (e : Ending) (w' : World) : Prop := e = .returned (.tuple #[.string ⟨(getF fs x).1.toArray⟩, .bool (getF fs x).2]) ∧ Below w.heap.size w w'
set_option maxRecDepth 100000 in
set_option maxHeartbeats 4000000 in
theorem getV_any (v : Value) (fs : List Fld) (x : ByteArray) (hf : fs.length ≤ 90000) (hfs : ∀ f ∈ fs, f.1.length ≤ 90000 ∧ f.2.length ≤ 90000) (hx : x.size ≤ 90000) (w : World) (h : HoldR 2 w v (fs.map rowF)) :
   Calls Tryz.prog 83 #[v, .string x] w (GetVPost x.data.toList fs w) := by
 have HH := Lib.hid h
 have HS := Lib.hid hfs
 obtain ⟨a, c, b, o, rfl, hc, ha, hcell⟩ := h
 obtain ⟨n, hn⟩ : ∃ n, fs.length = n := ⟨_, rfl⟩
 have HN := Lib.hid hn
 rw [List.length_map, hn] at hc ha ⊢
 rw [List.length_map] at HH
 rw [hn] at hf HH
 clear hcell hfs hn
 have HP : Hid (∀ (T : ByteArray) w' b, getF fs x.data.toList = (T.data.toList, b) → Below w.heap.size w w' → GetVPost x.data.toList fs w (.returned (.tuple #[.string T, .bool b])) w') := Lib.hid (fun T w' b h1 h2 => ⟨by rw [h1, ← strOf (x := T) rfl], h2⟩)
 have SN := fun (y : ByteArray) (hy : y.size ≤ 100000) w => sameName_any y x hy (by omega) w
 go_enter Tryz.func83, Tryz.ntmps83
 go_wp2
 go_loopw [10] (fun i wr => ∃ k : Nat, k ≤ n ∧ i = .int .i64 k ∧ Hid (hasN x.data.toList (fs.take k) = false) ∧ Hid (Below w.heap.size w wr)) (fun i _ => n - (intOf i).toNat)
 case atStart => exact ⟨0, by omega, rfl, Lib.hid rfl, Lib.hid (Below.refl _ _)⟩
 case round =>
   obtain ⟨k, hk, rfl, H, HB⟩ := hrel
   by_cases hlt : k < n
   · obtain ⟨rfl, hbw⟩ := ha (by omega)
     obtain ⟨f, hfk⟩ : ∃ f, fs[k]? = some f := ⟨_, List.getElem?_eq_getElem (by rw [HN.out]; exact hlt)⟩
     have hfm := HS.out f (List.mem_of_getElem? hfk)
     obtain ⟨X, hX⟩ : ∃ X : ByteArray, X.data.toList = f.1 := ⟨⟨f.1.toArray⟩, by simp⟩
     obtain ⟨Y, hY⟩ : ∃ Y : ByteArray, Y.data.toList = f.2 := ⟨⟨f.2.toArray⟩, by simp⟩
     obtain ⟨d0, d1⟩ := rowF_cells (HH.out.on HB.out) hfk hX hY
     have hXs : X.size ≤ 100000 := by rw [sizeOf, hX]; omega
     have S := SN X hXs
     have hst := hasN_take (x := x.data.toList) hfk
     rw [H.out, Bool.false_or, ← hX] at hst
     have hsz := HB.out.size
     have HBX : Hid (Below w.heap.size w (wr.alloc (.cells #[.string X, .string Y] 97))) := Lib.hid (HB.out.alloc hsz _)
     have hsub : hasN x.data.toList (fs.take (k + 1)) = true → hasN x.data.toList fs = true := fun g => by
       unfold hasN at g ⊢
       rw [List.any_eq_true] at g ⊢
       obtain ⟨y, hy, hy2⟩ := g
       exact ⟨y, List.mem_of_mem_take hy, hy2⟩
     obtain ⟨q, hq⟩ : ∃ q, sameB X.data.toList x.data.toList = q := ⟨_, rfl⟩
     have HQQ := Lib.hid hq
     rw [hq] at hst S
     clear hq
     cases q
     · have HK := Lib.hid hst
       clear hst hsub hX hY hfm hfk SN H
       go_wp2_with (go_at_call 133; refine (S _).mono ?_; rintro e w1 ⟨rfl, q, rfl⟩)
       go_roundw
       case rel => exact ⟨k + 1, by omega, by go_num, HK, Lib.hid (belowQ HBX.out q)⟩
       case measure => simp [intOf]; omega
     · have HK : Hid (getF fs x.data.toList = (Y.data.toList, true)) := Lib.hid (by rw [hY]; exact getF_hit H.out hfk (by rw [← hX]; exact HQQ.out))
       clear hst hsub hX hY hfm hfk SN H
       go_wp2_with (go_at_call 133; refine (S _).mono ?_; rintro e w1 ⟨rfl, q, rfl⟩)
       go_ret2
       exact HP.out Y _ true HK.out (belowQ HBX.out q)
   · obtain rfl : k = n := by omega
     have HK : Hid (hasN x.data.toList fs = false) := Lib.hid (by have := H.out; rwa [List.take_of_length_le (by rw [HN.out]; omega)] at this)
     clear hlt SN H
     go_wp2
     go_ret2
     exact HP.out ⟨#[]⟩ _ false (getF_miss HK.out) HB.out
structure Rb (w W : World) (v : Value) (cs : Array Value) : Prop where
 h0 : W.heap[w.heap.size]? = some (.cells #[v] 57 (0, 0))
 h1 : W.heap[w.heap.size + 1]? = some (.cells cs 43 (0, 0))
 b : Below w.heap.size w W
theorem Rb.on {w W W' : World} {v : Value} {cs : Array Value} (h : Rb w W v cs) (hb : Below W.heap.size W W') : Rb w W' v cs :=
 ⟨(hb.block _ (lt_heapU h.h0)).trans h.h0, (hb.block _ (lt_heapU h.h1)).trans h.h1, h.b.trans (hb.mono h.b.size)⟩
theorem Rb.new (w : World) (v : Value) (cs : Array Value) : Rb w ((w.alloc (.cells #[v] 57)).alloc (.cells cs 43)) v cs := by
 have a1 := heap_alloc_new w (.cells #[v] 57)
 have b1 := (Below.refl w.heap.size w).alloc (Nat.le_refl _) (.cells #[v] 57)
 have a2 := heap_alloc_new (w.alloc (.cells #[v] 57)) (.cells cs 43)
 have b2 := (Below.refl (w.alloc (.cells #[v] 57)).heap.size (w.alloc (.cells #[v] 57))).alloc (Nat.le_refl _) (.cells cs 43)
 rw [World.size_alloc] at a2
 exact ⟨(b2.block _ (lt_heapU a1)).trans a1, a2, b1.trans (b2.mono b1.size)⟩
set_option maxRecDepth 100000 in
set_option maxHeartbeats 4000000 in
theorem getC (N : ByteArray) (T : Bs) (hN : N.size ≤ 90000) (hT : (getF rowsU N.data.toList).1 = T) {w W : World} {v : Value} {cs : Array Value} (h : Rb w W v cs) (hv : HoldR 2 w v (rowsU.map rowF)) : Calls Tryz.prog 82 #[.string N, .pointer (some ⟨w.heap.size, 0, none⟩)] W fun e w' => e = .returned (.string ⟨T.toArray⟩) ∧ Below W.heap.size W w' := by
 have C := getV_any v rowsU N (by simp) (fun f hf => by simp at hf; rcases hf with rfl | rfl | rfl <;> simp) hN W (hv.on h.b)
 unfold GetVPost at C
 rw [hT] at C
 have c0 := cell_heap (i := 0) h.h0 rfl
 obtain ⟨a, c, b, o, e, hc, ha, hcell⟩ := hv
 subst e
 clear hc ha hcell h hT
 generalize (getF rowsU N.data.toList).2 = q at *
 generalize (rowsU.map rowF).length = n at *
 go_enter Tryz.func82, Tryz.ntmps82
 go_wp2_with (go_at_call 83; (with_reducible refine C.mono ?_); rintro e w1 ⟨rfl, hb⟩; have HB := Lib.hid hb; clear hb)
 go_ret
 exact ⟨rfl, HB.out⟩
theorem pa0 (w : World) (hL : LaidU w) : Calls Tryz.prog 84 #[.string ⟨#[]⟩] w fun e w' => ∃ a c, e = .returned (.tuple #[.slice a 0 c, .int .i64 0]) ∧ Below w.heap.size w w' := by
 have hs : Lib.splitN (ByteArray.mk #[]).data.toList sepA 65 = [[]] := by decide +kernel
 have hg : Lib.splitN ([] : Bs) sepG 65 = [[]] := by decide +kernel
 have C := parseAllQ_any ⟨#[]⟩ (by decide) (fun p hp => by
   rw [hs] at hp
   simp at hp
   subst hp
   exact ⟨by simp, fun q hq => by rw [hg] at hq; simp at hq; subst hq; simp⟩) w hL.q
 rw [show parseA (ByteArray.mk #[]).data.toList = some [] by decide +kernel] at C
 refine C.mono fun e w' h => ?_
 obtain ⟨⟨v, L, he, hl, ho⟩, hb⟩ := h
 have hL0 : L = [] := by simpa [fsts] using hl
 subst hL0
 obtain ⟨a, c, b, o, e', _⟩ := ho.holds.1
 exact ⟨a, c, by rw [he, e']; rfl, hb⟩
theorem pl0 (w : World) (hL : LaidU w) : Calls Tryz.prog 85 #[.string ⟨#[]⟩] w fun e w' => ∃ a c, e = .returned (.tuple #[.slice a 0 c, .int .i64 0]) ∧ Below w.heap.size w w' := by
 have hs : Lib.splitN (ByteArray.mk #[]).data.toList sepA 65 = [[]] := by decide +kernel
 have C := parseListQ_any ⟨#[]⟩ (by decide) (fun p hp => by rw [hs] at hp; simp at hp; subst hp; simp) w hL.q
 rw [show parseQ (ByteArray.mk #[]).data.toList = some [] by decide +kernel] at C
 refine C.mono fun e w' h => ?_
 obtain ⟨⟨v, he, ho⟩, hb⟩ := h
 obtain ⟨a, c, b, o, e', _⟩ := OwnV.holds ho
 exact ⟨a, c, by rw [he, e']; rfl, hb⟩
theorem words0 (w : World) : Calls Tryz.prog 87 #[.string ⟨#[]⟩] w fun e w' => ∃ a c, e = .returned (.slice a 0 c) ∧ Below w.heap.size w w' := by
 refine (pwords_any ⟨#[]⟩ (by decide) w).mono fun e w' h => ?_
 obtain ⟨v, he, ho, hb⟩ := h
 rw [show wordsL (ByteArray.mk #[]).data.toList = [] by decide +kernel] at ho
 obtain ⟨a, c, b, o, e', _⟩ := ho.holds
 exact ⟨a, c, by rw [he, e']; rfl, hb⟩
set_option maxRecDepth 100000 in
set_option maxHeartbeats 4000000 in
theorem confs0 (w : World) (hL : LaidU w) : Calls Tryz.prog 88 #[.string ⟨#[]⟩] w fun e w' => e = .returned (.slice none 0 0) ∧ Below w.heap.size w w' := by
 obtain ⟨m, hm⟩ := hL.p.mx
 have C1 := Tryz.strings_Split ⟨#[]⟩ ⟨#[10]⟩ m w (by decide) hm (by decide)
 rw [show Lib.countB ⟨#[]⟩ ⟨#[10]⟩ = 0 by decide +kernel] at C1
 have hb1 : Below w.heap.size w (w.alloc (.cells ((Lib.splitB ⟨#[10]⟩ 0 0 ⟨#[]⟩).map Value.string).toArray 9)) := (Below.refl _ _).alloc (Nat.le_refl _) _
 generalize w.alloc (.cells ((Lib.splitB ⟨#[10]⟩ 0 0 ⟨#[]⟩).map Value.string).toArray 9) = w1 at *
 have HB := Lib.hid hb1
 clear hL hm hb1
 go_enter Tryz.func88, Tryz.ntmps88
 go_wp2_with (go_at_call 139; (with_reducible refine C1.mono ?_); rintro e w2 ⟨rfl, rfl⟩)
 go_loop [3, 13] (fun u i => u = .slice none 0 0 ∧ i = .int .i64 0) (fun _ _ => 0)
 case atStart => exact ⟨rfl, rfl⟩
 case round =>
   obtain ⟨rfl, rfl⟩ := hrel
   go_wp2
   go_ret
   exact ⟨rfl, HB.out⟩
abbrev nine (W : World) (b : Nat) (u0 u1 u2 u3 u4 u5 u6 u7 u8 : Value) : World := ((((((((W.setCell ⟨b, 0, none⟩ u0).setCell ⟨b, 1, none⟩ u1).setCell ⟨b, 2, none⟩ u2).setCell ⟨b, 3, none⟩ u3).setCell ⟨b, 4, none⟩ u4).setCell ⟨b, 5, none⟩ u5).setCell ⟨b, 6, none⟩ u6).setCell ⟨b, 7, none⟩ u7).setCell ⟨b, 8, none⟩ u8
theorem nine_cells {W : World} {b : Nat} {a0 a1 a2 a3 a4 a5 a6 a7 a8 : Value} {t : TypeId} (u0 u1 u2 u3 u4 u5 u6 u7 u8 : Value) (h : W.heap[b]? = some (.cells #[a0, a1, a2, a3, a4, a5, a6, a7, a8] t (0, 0))) :
   (nine W b u0 u1 u2 u3 u4 u5 u6 u7 u8).cell? ⟨b, 0, none⟩ = some u0 ∧ (nine W b u0 u1 u2 u3 u4 u5 u6 u7 u8).cell? ⟨b, 1, none⟩ = some u1 ∧ (nine W b u0 u1 u2 u3 u4 u5 u6 u7 u8).cell? ⟨b, 2, none⟩ = some u2 ∧ (nine W b u0 u1 u2 u3 u4 u5 u6 u7 u8).cell? ⟨b, 3, none⟩ = some u3 ∧ (nine W b u0 u1 u2 u3 u4 u5 u6 u7 u8).cell? ⟨b, 4, none⟩ = some u4 ∧ (nine W b u0 u1 u2 u3 u4 u5 u6 u7 u8).cell? ⟨b, 5, none⟩ = some u5 ∧ (nine W b u0 u1 u2 u3 u4 u5 u6 u7 u8).cell? ⟨b, 6, none⟩ = some u6 ∧ (nine W b u0 u1 u2 u3 u4 u5 u6 u7 u8).cell? ⟨b, 7, none⟩ = some u7 ∧ (nine W b u0 u1 u2 u3 u4 u5 u6 u7 u8).cell? ⟨b, 8, none⟩ = some u8 := by
 have h0 : (W.setCell ⟨b, 0, none⟩ u0).heap[b]? = some (.cells #[u0, a1, a2, a3, a4, a5, a6, a7, a8] t (0, 0)) := by have := heap_setU (i := 0) u0 h; simpa using this
 have h1 : ((W.setCell ⟨b, 0, none⟩ u0).setCell ⟨b, 1, none⟩ u1).heap[b]? = some (.cells #[u0, u1, a2, a3, a4, a5, a6, a7, a8] t (0, 0)) := by have := heap_setU (i := 1) u1 h0; simpa using this
 have h2 : (((W.setCell ⟨b, 0, none⟩ u0).setCell ⟨b, 1, none⟩ u1).setCell ⟨b, 2, none⟩ u2).heap[b]? = some (.cells #[u0, u1, u2, a3, a4, a5, a6, a7, a8] t (0, 0)) := by have := heap_setU (i := 2) u2 h1; simpa using this
 have h3 : ((((W.setCell ⟨b, 0, none⟩ u0).setCell ⟨b, 1, none⟩ u1).setCell ⟨b, 2, none⟩ u2).setCell ⟨b, 3, none⟩ u3).heap[b]? = some (.cells #[u0, u1, u2, u3, a4, a5, a6, a7, a8] t (0, 0)) := by have := heap_setU (i := 3) u3 h2; simpa using this
 have h4 : (((((W.setCell ⟨b, 0, none⟩ u0).setCell ⟨b, 1, none⟩ u1).setCell ⟨b, 2, none⟩ u2).setCell ⟨b, 3, none⟩ u3).setCell ⟨b, 4, none⟩ u4).heap[b]? = some (.cells #[u0, u1, u2, u3, u4, a5, a6, a7, a8] t (0, 0)) := by have := heap_setU (i := 4) u4 h3; simpa using this
 have h5 : ((((((W.setCell ⟨b, 0, none⟩ u0).setCell ⟨b, 1, none⟩ u1).setCell ⟨b, 2, none⟩ u2).setCell ⟨b, 3, none⟩ u3).setCell ⟨b, 4, none⟩ u4).setCell ⟨b, 5, none⟩ u5).heap[b]? = some (.cells #[u0, u1, u2, u3, u4, u5, a6, a7, a8] t (0, 0)) := by have := heap_setU (i := 5) u5 h4; simpa using this
 have h6 : (((((((W.setCell ⟨b, 0, none⟩ u0).setCell ⟨b, 1, none⟩ u1).setCell ⟨b, 2, none⟩ u2).setCell ⟨b, 3, none⟩ u3).setCell ⟨b, 4, none⟩ u4).setCell ⟨b, 5, none⟩ u5).setCell ⟨b, 6, none⟩ u6).heap[b]? = some (.cells #[u0, u1, u2, u3, u4, u5, u6, a7, a8] t (0, 0)) := by have := heap_setU (i := 6) u6 h5; simpa using this
 have h7 : ((((((((W.setCell ⟨b, 0, none⟩ u0).setCell ⟨b, 1, none⟩ u1).setCell ⟨b, 2, none⟩ u2).setCell ⟨b, 3, none⟩ u3).setCell ⟨b, 4, none⟩ u4).setCell ⟨b, 5, none⟩ u5).setCell ⟨b, 6, none⟩ u6).setCell ⟨b, 7, none⟩ u7).heap[b]? = some (.cells #[u0, u1, u2, u3, u4, u5, u6, u7, a8] t (0, 0)) := by have := heap_setU (i := 7) u7 h6; simpa using this
 have h8 : (((((((((W.setCell ⟨b, 0, none⟩ u0).setCell ⟨b, 1, none⟩ u1).setCell ⟨b, 2, none⟩ u2).setCell ⟨b, 3, none⟩ u3).setCell ⟨b, 4, none⟩ u4).setCell ⟨b, 5, none⟩ u5).setCell ⟨b, 6, none⟩ u6).setCell ⟨b, 7, none⟩ u7).setCell ⟨b, 8, none⟩ u8).heap[b]? = some (.cells #[u0, u1, u2, u3, u4, u5, u6, u7, u8] t (0, 0)) := by have := heap_setU (i := 8) u8 h7; simpa using this
 exact ⟨cell_heap (i := 0) h8 (by simp), cell_heap (i := 1) h8 (by simp), cell_heap (i := 2) h8 (by simp), cell_heap (i := 3) h8 (by simp), cell_heap (i := 4) h8 (by simp), cell_heap (i := 5) h8 (by simp), cell_heap (i := 6) h8 (by simp), cell_heap (i := 7) h8 (by simp), cell_heap (i := 8) h8 (by simp)⟩
theorem nine_below {B : Nat} {w W : World} (h : Below B w W) {b : Nat} (hb : B ≤ b) (u0 u1 u2 u3 u4 u5 u6 u7 u8 : Value) : Below B w (nine W b u0 u1 u2 u3 u4 u5 u6 u7 u8) :=
 ((((((((h.setCell (p := ⟨b, 0, none⟩) hb u0).setCell (p := ⟨b, 1, none⟩) hb u1).setCell (p := ⟨b, 2, none⟩) hb u2).setCell (p := ⟨b, 3, none⟩) hb u3).setCell (p := ⟨b, 4, none⟩) hb u4).setCell (p := ⟨b, 5, none⟩) hb u5).setCell (p := ⟨b, 6, none⟩) hb u6).setCell (p := ⟨b, 7, none⟩) hb u7).setCell (p := ⟨b, 8, none⟩) hb u8
set_option maxRecDepth 100000 in
set_option maxHeartbeats 16000000 in
theorem record1 (v : Value) (w : World) (hL : LaidU w) (hv : HoldR 2 w v (rowsU.map rowF)) : Calls Tryz.prog 38 #[v] w fun e w' => ∃ a3 a4 a5 a7 a8 m3 m4 m5 m7 m8, e = .returned (.agg #[.string ⟨#[97]⟩, .string ⟨#[49]⟩, .int .i64 7, .slice a3 0 m3, .slice a4 0 m4, .slice a5 0 m5, .slice none 0 0, .slice a7 0 m7, .slice a8 0 m8]) ∧ Below w.heap.size w w' := by
 have HL := Lib.hid hL
 have HV := Lib.hid hv
 have hvf : ∃ a n c, v = .slice a n c := by obtain ⟨a, c, b, o, e, _⟩ := hv; exact ⟨_, _, _, e⟩
 obtain ⟨va, vn, vc, rfl⟩ := hvf
 have HR0 := Lib.hid (Rb.new w (.slice va vn vc) #[.string ⟨#[]⟩, .string ⟨#[]⟩, .int .i64 0, .slice none 0 0, .slice none 0 0, .slice none 0 0, .slice none 0 0, .slice none 0 0, .slice none 0 0])
 have ST := fun W (hb : Below w.heap.size w W) => state_any ⟨#[105, 110, 115, 116, 97, 108, 108, 101, 100]⟩ W (HL.out.on hb)
 rw [show stateU (⟨#[105, 110, 115, 116, 97, 108, 108, 101, 100]⟩ : ByteArray).data.toList = 7 by decide +kernel] at ST
 have PA0 := fun W (hb : Below w.heap.size w W) => pa0 W (HL.out.on hb)
 have PL0 := fun W (hb : Below w.heap.size w W) => pl0 W (HL.out.on hb)
 have CF0 := fun W (hb : Below w.heap.size w W) => confs0 W (HL.out.on hb)
 clear hL hv
 go_enter Tryz.func38, Tryz.ntmps38
 go_wp2_with (first
   | (go_at_call 87; (with_reducible refine (words0 _).mono ?_); rintro e w16 ⟨a8, m8, rfl, hb⟩; have HR16 := Lib.hid (HR15.out.on hb); have r0 := cell_heap (i := 0) HR16.out.h1 rfl; have g0 := frozen_of_row _ _ 0 _ _ HR16.out.h1; have r1 := cell_heap (i := 1) HR16.out.h1 rfl; have g1 := frozen_of_row _ _ 1 _ _ HR16.out.h1; have r2 := cell_heap (i := 2) HR16.out.h1 rfl; have g2 := frozen_of_row _ _ 2 _ _ HR16.out.h1; have r3 := cell_heap (i := 3) HR16.out.h1 rfl; have g3 := frozen_of_row _ _ 3 _ _ HR16.out.h1; have r4 := cell_heap (i := 4) HR16.out.h1 rfl; have g4 := frozen_of_row _ _ 4 _ _ HR16.out.h1; have r5 := cell_heap (i := 5) HR16.out.h1 rfl; have g5 := frozen_of_row _ _ 5 _ _ HR16.out.h1; have r6 := cell_heap (i := 6) HR16.out.h1 rfl; have g6 := frozen_of_row _ _ 6 _ _ HR16.out.h1; have r7 := cell_heap (i := 7) HR16.out.h1 rfl; have g7 := frozen_of_row _ _ 7 _ _ HR16.out.h1; have r8 := cell_heap (i := 8) HR16.out.h1 rfl; have g8 := frozen_of_row _ _ 8 _ _ HR16.out.h1; clear hb)
   | (go_at_call 82; (with_reducible refine (getC ⟨#[84, 114, 105, 103, 103, 101, 114, 115, 45, 65, 119, 97, 105, 116, 101, 100]⟩ [] (by decide) (by decide +kernel) HR14.out HV.out).mono ?_); rintro e w15 ⟨rfl, hb⟩; have HR15 := Lib.hid (HR14.out.on hb); clear hb)
   | (go_at_call 87; (with_reducible refine (words0 _).mono ?_); rintro e w14 ⟨a7, m7, rfl, hb⟩; have HR14 := Lib.hid (HR13.out.on hb); clear hb)
   | (go_at_call 82; (with_reducible refine (getC ⟨#[84, 114, 105, 103, 103, 101, 114, 115, 45, 80, 101, 110, 100, 105, 110, 103]⟩ [] (by decide) (by decide +kernel) HR12.out HV.out).mono ?_); rintro e w13 ⟨rfl, hb⟩; have HR13 := Lib.hid (HR12.out.on hb); clear hb)
   | (go_at_call 88; (with_reducible refine (CF0 _ HR11.out.b).mono ?_); rintro e w12 ⟨rfl, hb⟩; have HR12 := Lib.hid (HR11.out.on hb); clear hb)
   | (go_at_call 82; (with_reducible refine (getC ⟨#[67, 111, 110, 102, 102, 105, 108, 101, 115]⟩ [] (by decide) (by decide +kernel) HR10.out HV.out).mono ?_); rintro e w11 ⟨rfl, hb⟩; have HR11 := Lib.hid (HR10.out.on hb); clear hb)
   | (go_at_call 87; (with_reducible refine (words0 _).mono ?_); rintro e w10 ⟨a5, m5, rfl, hb⟩; have HR10 := Lib.hid (HR9.out.on hb); clear hb)
   | (go_at_call 82; (with_reducible refine (getC ⟨#[82, 101, 112, 108, 97, 99, 101, 115]⟩ [] (by decide) (by decide +kernel) HR8.out HV.out).mono ?_); rintro e w9 ⟨rfl, hb⟩; have HR9 := Lib.hid (HR8.out.on hb); clear hb)
   | (go_at_call 86; (with_reducible refine (ST _ HR7.out.b).mono ?_); rintro e w8 ⟨rfl, hb⟩; have HR8 := Lib.hid (HR7.out.on hb); clear hb)
   | (go_at_call 82; (with_reducible refine (getC ⟨#[83, 116, 97, 116, 117, 115]⟩ [105, 110, 115, 116, 97, 108, 108, 101, 100] (by decide) (by decide +kernel) HR6.out HV.out).mono ?_); rintro e w7 ⟨rfl, hb⟩; have HR7 := Lib.hid (HR6.out.on hb); clear hb)
   | (go_at_call 82; (with_reducible refine (getC ⟨#[86, 101, 114, 115, 105, 111, 110]⟩ [49] (by decide) (by decide +kernel) HR5.out HV.out).mono ?_); rintro e w6 ⟨rfl, hb⟩; have HR6 := Lib.hid (HR5.out.on hb); clear hb)
   | (go_at_call 82; (with_reducible refine (getC ⟨#[80, 97, 99, 107, 97, 103, 101]⟩ [97] (by decide) (by decide +kernel) HR4.out HV.out).mono ?_); rintro e w5 ⟨rfl, hb⟩; have HR5 := Lib.hid (HR4.out.on hb); clear hb)
   | (go_at_call 85; (with_reducible refine (PL0 _ HR3.out.b).mono ?_); rintro e w4 ⟨a4, m4, rfl, hb⟩; have HR4 := Lib.hid (HR3.out.on hb); clear hb)
   | (go_at_call 82; (with_reducible refine (getC ⟨#[67, 111, 110, 102, 108, 105, 99, 116, 115]⟩ [] (by decide) (by decide +kernel) HR2.out HV.out).mono ?_); rintro e w3 ⟨rfl, hb⟩; have HR3 := Lib.hid (HR2.out.on hb); clear hb)
   | (go_at_call 84; (with_reducible refine (PA0 _ HR1.out.b).mono ?_); rintro e w2 ⟨a3, m3, rfl, hb⟩; have HR2 := Lib.hid (HR1.out.on hb); clear hb)
   | (go_at_call 82; (with_reducible refine (getC ⟨#[68, 101, 112, 101, 110, 100, 115]⟩ [] (by decide) (by decide +kernel) HR0.out HV.out).mono ?_); rintro e w1 ⟨rfl, hb⟩; have HR1 := Lib.hid (HR0.out.on hb); clear hb))
 obtain ⟨k0, k1, k2, k3, k4, k5, k6, k7, k8⟩ := nine_cells (.string ⟨#[97]⟩) (.string ⟨#[49]⟩) (.int .i64 7) (.slice a3 0 m3) (.slice a4 0 m4) (.slice a5 0 m5) (.slice none 0 0) (.slice a7 0 m7) (.slice a8 0 m8) HR16.out.h1
 have HBX := nine_below HR16.out.b (b := w.heap.size + 1) (by omega) (.string ⟨#[97]⟩) (.string ⟨#[49]⟩) (.int .i64 7) (.slice a3 0 m3) (.slice a4 0 m4) (.slice a5 0 m5) (.slice none 0 0) (.slice a7 0 m7) (.slice a8 0 m8)
 exact bodyPost_ret (v := .agg #[.string ⟨#[97]⟩, .string ⟨#[49]⟩, .int .i64 7, .slice a3 0 m3, .slice a4 0 m4, .slice a5 0 m5, .slice none 0 0, .slice a7 0 m7, .slice a8 0 m8]) (by simp [results, Tryz.results38, go_sem, k0, k1, k2, k3, k4, k5, k6, k7, k8]) rfl ⟨a3, a4, a5, a7, a8, m3, m4, m5, m7, m8, rfl, HBX⟩
end Go.Proofs.YtnnagboeimeiiaaGreatDoor
