import Derived.Test.YtnnagboeimeiiaaGreatDoorWQPParse
import Derived.Test.YtnnagboeimeiiaaGreatDoorWUKeyT
import Derived.Test.YtnnagboeimeiiaaGreatDoorWQGroup2
import Derived.Test.YtnnagboeimeiiaaGreatDoorWShelf
import Derived.Test.YtnnagboeimeiiaaGreatDoorWSWords
import Derived.Test.YtnnagboeimeiiaaGreatDoorWSPLines2
namespace Go.Proofs.YtnnagboeimeiiaaGreatDoor
open Go.RowKit
theorem joinM_len (sep : Bs) (N : Nat) : ∀ (l : List Bs), (∀ p ∈ l, p.length ≤ N) → (Lib.join l sep).length ≤ l.length * (N + sep.length)
 | [], _ => by simp [Lib.join, List.intercalate]
 | [p], h => by have := h p (by simp); rw [Lib.join_one]; simp; omega
 | p :: q :: ps, h => by
   have h1 := joinM_len sep N (q :: ps) (fun x hx => h x (List.mem_cons_of_mem _ hx))
   have h2 := h p (by simp)
   rw [join_two, List.length_append, List.length_append, List.length_cons (a := p), Nat.add_mul]
   omega
theorem joinM_any (sep : ByteArray) (hsep : sep.size ≤ 10) (v : Value) (ls : List Bs) (hl : ls.length ≤ 90000) (hs : ∀ p ∈ ls, p.length ≤ 10000000) (w : World) (h : HoldT w v ls) :
   Calls Tryz.prog 70 #[v, .string sep] w fun e w' => e = .returned (.string (bsT (Lib.join ls sep.data.toList))) ∧ Below w.heap.size w w' := by
 obtain ⟨a, c, b, o, rfl, hc, ha, hcell⟩ := h
 by_cases h0 : ls = []
 · subst h0
   exact (Tryz.strings_Join_none a c sep w).mono (fun _ _ hp => ⟨hp.1, by rw [hp.2]; exact Below.refl _ _⟩)
 have h1 : 0 < ls.length := List.length_pos_iff.2 h0
 obtain ⟨rfl, hb⟩ := ha h1
 have hm : (ls.map fun l => ByteArray.mk l.toArray).map (fun x => x.data.toList) = ls := by
   rw [List.map_map]; conv => rhs; rw [← List.map_id ls]
   exact List.map_congr_left (fun l _ => by simp)
 have hj := joinM_len sep.data.toList 10000000 ls hs
 rw [← sizeOf] at hj
 have hjj : ls.length * (10000000 + sep.size) ≤ 90000 * 10000010 := Nat.mul_le_mul hl (by omega)
 have := Tryz.strings_Join b o c (ls.map fun l => ByteArray.mk l.toArray) sep w (fun j x hx => by
   rw [List.getElem?_map] at hx
   cases hg : ls[j]? with
   | none => rw [hg] at hx; cases hx
   | some l => rw [hg] at hx; obtain rfl := Option.some.inj hx; exact hcell j l hg) hb (by rw [List.length_map]; omega) (by rw [List.length_map]; exact hc) (by rw [hm]; omega)
 rw [hm, List.length_map] at this
 exact this
theorem map_snocQ {α β : Type} (f : α → β) {l : List α} {k : Nat} {x : α} (h : l[k]? = some x) : (l.take (k + 1)).map f = (l.take k).map f ++ [f x] := by
 rw [List.take_add_one, h, List.map_append]; rfl
def SmallQ (l : List Rl) : Prop := ∀ x ∈ l, x.1.length ≤ 4000 ∧ x.2.1.length ≤ 4000 ∧ x.2.2.length ≤ 4000
theorem textR_len {x : Rl} (h : x.1.length ≤ 4000 ∧ x.2.1.length ≤ 4000 ∧ x.2.2.length ≤ 4000) : (textR x).length ≤ 12004 := by
 unfold textR
 split
 · omega
 · simp; omega
theorem textG_len {g : List Rl} (h : SmallQ g) (hl : g.length ≤ 500) : (textG g).length ≤ 7000000 := by
 have := joinM_len sepG 12004 (g.map textR) (fun p hp => by obtain ⟨x, hx, rfl⟩ := List.mem_map.1 hp; exact textR_len (h x hx))
 rw [List.length_map] at this
 have h2 : g.length * (12004 + sepG.length) ≤ 500 * 12007 := Nat.mul_le_mul_right _ hl
 unfold textG; omega
set_option maxRecDepth 100000 in
set_option maxHeartbeats 8000000 in
theorem joinedR_any (sep : ByteArray) (hsep : sep.size ≤ 10) (v : Value) (l : List Rl) (hl : l.length ≤ 90000) (hs : SmallQ l) (w : World) (h : HoldQ w v l) :
   Calls Tryz.prog 119 #[v, .string sep, .func (.func 120) #[] #[]] w fun e w' => e = .returned (.string (bsT (Lib.join (l.map textR) sep.data.toList))) ∧ Below w.heap.size w w' := by
 obtain ⟨a, c, b, o, rfl, hc, ha, hcell⟩ := h.parts
 obtain ⟨i0, hi, hz0, hz1, hz2'⟩ := info_parts infoT
 have HC := Lib.hid hcell
 have HS := Lib.hid hs
 have HSEP := Lib.hid hsep
 have EN : ∀ args w, (callFunc 120 args).run Tryz.prog w = .ok (.enter 120 args) w := enters_of Tryz.func120 (by kernel_rfl) rfl
 obtain ⟨R, hR⟩ : ∃ R, bsT (Lib.join (l.map textR) sep.data.toList) = R := ⟨_, rfl⟩
 rw [hR]
 have HR := Lib.hid hR
 obtain ⟨n, hN⟩ : ∃ n, l.length = n := ⟨_, rfl⟩
 rw [hN] at hc ha hl ⊢
 have HN := Lib.hid hN
 clear hcell hN h hs hsep hR
 go_enter Tryz.func119, Tryz.ntmps119
 go_wp2
 go_loopw [7, 12] (fun u i wr => ∃ k : Nat, k ≤ n ∧ i = .int .i64 k ∧ Hid (OwnT wr w.heap.size u ((l.take k).map textR)) ∧ Hid (Below w.heap.size w wr)) (fun _ i _ => n - (intOf i).toNat)
 case atStart => exact ⟨0, by omega, rfl, Lib.hid (OwnT.nil _ _), Lib.hid (Below.refl _ _)⟩
 case round =>
   obtain ⟨k, hk, rfl, HO, HB⟩ := hrel
   have hsz := HB.out.size
   by_cases hlt : k < n
   · obtain ⟨rfl, hbw⟩ := ha (by omega)
     obtain ⟨⟨p, q, z⟩, hx⟩ : ∃ x, l[k]? = some x := ⟨_, List.getElem?_eq_getElem (by rw [HN.out]; exact hlt)⟩
     obtain ⟨c0, c1, c2⟩ := HC.out k _ hx
     have hsm := HS.out _ (List.mem_of_getElem? hx)
     dsimp only at c0 c1 c2 hsm
     rw [← HB.out.cell (p := ⟨b, o + k * 3, none⟩) hbw] at c0
     rw [← HB.out.cell (p := ⟨b, o + k * 3 + 1, none⟩) hbw] at c1
     rw [← HB.out.cell (p := ⟨b, o + k * 3 + 2, none⟩) hbw] at c2
     have TX := fun W => textR_any (bsT p) (bsT q) (bsT z) (by rw [sizeOf, bytesOf]; omega) (by rw [sizeOf, bytesOf]; omega) (by rw [sizeOf, bytesOf]; omega) W
     rw [bytesOf, bytesOf, bytesOf] at TX
     have HSN := Lib.hid (map_snocQ textR hx)
     obtain ⟨T, hT⟩ : ∃ T : ByteArray, (⟨(textR (p, q, z)).toArray⟩ : ByteArray) = T := ⟨_, rfl⟩
     have HT : Hid (T.data.toList = textR (p, q, z)) := Lib.hid (by rw [← hT])
     rw [hT] at TX
     have hlen : ((l.take k).map textR).length = k := by rw [List.length_map, List.length_take, HN.out]; omega
     obtain ⟨L, hL⟩ : ∃ L, (l.take k).map textR = L := ⟨_, rfl⟩
     rw [hL] at HO hlen HSN
     have HLEN := Lib.hid hlen
     generalize bsT p = P at *
     generalize bsT q = Q at *
     generalize bsT z = Z at *
     have B0 := (Below.refl wr.heap.size wr).alloc (Nat.le_refl _) (.cells #[.string P, .string Q, .string Z] 53)
     have HB0 := Lib.hid (HB.out.trans (B0.mono hsz))
     have HO0 : Hid (OwnT (wr.alloc (.cells #[.string P, .string Q, .string Z] 53)) w.heap.size u7 L) := Lib.hid (World.ownsRow.alloc HO.out _)
     clear hx hT hlen hsm B0 HO HB hL
     go_wp2_with (first
       | (go_at_fn 120; (with_reducible refine (TX _).mono ?_); rintro e w2 ⟨rfl, hb⟩; have HB2 := Lib.hid (HB0.out.trans (hb.mono HB0.out.size)); have HO2 : Hid (OwnT w2 w.heap.size u7 L) := Lib.hid (World.ownsRow.kept HO0.out (grownV hb) (by cases u7.ownBlock <;> simp)); have hz2 := HB2.out.size; clear hb TX)
       | (at_builtin; refine wpList_append_own _ rfl _ _ 40 rfl w.heap.size 9 i0 _ 1 16 Tryz.underlying40 hi hz0 hz1 hz2' rfl (by decide) _ _ _ rfl (World.ownsRow.alloc HO2.out _) ⟨w2.heap.size, 0, none⟩ 1 1 [.string T] rfl rfl (by intro j u hj; match j, hj with | 0, hj => simp at hj; subst hj; simp [Addr.add]) (by intro u hu; simp at hu; subst hu; rfl) (by rw [HLEN.out]; unfold maxLen; omega) (by rw [HLEN.out]; omega) (by simp; omega) ?_))
     intro v' w3 hown' hgrow _
     have HO3 : Hid (OwnT w3 w.heap.size v' ((l.take (k + 1)).map textR)) := Lib.hid (by rw [HSN.out]; exact OwnT.app HT.out hown')
     have HB3 : Hid (Below w.heap.size w w3) := Lib.hid (belowG HB2.out HO2.out hgrow (Nat.le_refl _) hz2)
     clear hown' hgrow
     go_wp2
     go_roundw
     case rel => exact ⟨k + 1, by omega, by go_num, HO3, HB3⟩
     case measure => simp [intOf]; omega
   · obtain rfl : k = n := by omega
     have HE : Hid ((l.take k).map textR = l.map textR) := Lib.hid (by rw [List.take_of_length_le (by rw [HN.out]; omega)])
     have JN := joinM_any sep HSEP.out _ _ (by rw [List.length_map, List.length_take]; omega) (fun p hp => by
       obtain ⟨x, hx, rfl⟩ := List.mem_map.1 hp
       have := textR_len (HS.out x (List.mem_of_mem_take hx)); omega) wr HO.out.holds
     rw [HE.out, HR.out] at JN
     clear hlt
     go_wp2_with (go_at_call 70; (with_reducible refine JN.mono ?_); rintro e w2 ⟨rfl, hb⟩; have HB2 := Lib.hid (HB.out.trans (hb.mono hsz)); clear hb)
     go_ret
     exact ⟨rfl, HB2.out⟩
end Go.Proofs.YtnnagboeimeiiaaGreatDoor
namespace Go.Proofs.YtnnagboeimeiiaaGreatDoor
open Go.RowKit
set_option maxHeartbeats 4000000 in
theorem groupText_any (v : Value) (g : List Rl) (hl : g.length ≤ 90000) (hs : SmallQ g) (w : World) (h : HoldQ w v g) : Calls Tryz.prog 118 #[v] w fun e w' => e = .returned (.string (bsT (textG g))) ∧ Below w.heap.size w w' := by
 have J := joinedR_any ⟨#[32, 124, 32]⟩ (by decide) v g hl hs w h
 obtain ⟨R, hR⟩ : ∃ R, bsT (Lib.join (g.map textR) (ByteArray.mk #[32, 124, 32]).data.toList) = R := ⟨_, rfl⟩
 have HR : Hid (R = bsT (textG g)) := Lib.hid hR.symm
 rw [hR] at J
 obtain ⟨a, c, b, o, rfl, -⟩ := h.parts
 generalize g.length = n at *
 clear hR h hs hl
 go_enter Tryz.func118, Tryz.ntmps118
 go_wp2_with (go_at_call 119; (with_reducible refine J.mono ?_); rintro e w1 ⟨rfl, hb⟩; have HB := Lib.hid hb; clear hb)
 go_ret
 exact ⟨by rw [HR.out]; rfl, HB.out⟩
set_option maxHeartbeats 4000000 in
theorem allRight1_any (x : Rl) (h1 : x.1.length ≤ 4000 ∧ x.2.1.length ≤ 4000 ∧ x.2.2.length ≤ 4000) (w : World) (hL : LaidV w) : Calls Tryz.prog 156 #[aggQ x] w fun e w' => e = .returned (.bool (!rightR x)) ∧ Below w.heap.size w w' := by
 have R := fun W h => rightR_any (bsT x.1) (bsT x.2.1) (bsT x.2.2) (by rw [sizeOf, bytesOf]; omega) (by rw [sizeOf, bytesOf]; omega) W h
 rw [bytesOf, bytesOf, bytesOf] at R
 obtain ⟨p, q, z⟩ := x
 dsimp only at R ⊢
 unfold aggQ
 dsimp only
 generalize rightR (p, q, z) = r at *
 have HBA : Hid (∀ o, Below w.heap.size w (w.alloc o)) := Lib.hid (fun o => (Below.refl _ _).alloc (Nat.le_refl _) o)
 have HLA := Lib.hid (fun o => hL.on (HBA.out o))
 generalize bsT p = P at *
 generalize bsT q = Q at *
 generalize bsT z = Z at *
 clear hL h1
 go_enter Tryz.func156, Tryz.ntmps156
 go_wp2_with (go_at_call 157; (with_reducible refine (R _ (HLA.out _)).mono ?_); rintro e w1 ⟨rfl, hb⟩; have HB := Lib.hid ((HBA.out _).trans (hb.mono (HBA.out _).size)); clear hb)
 go_ret
 exact ⟨rfl, HB.out⟩
set_option maxHeartbeats 4000000 in
theorem allRight_any (v : Value) (l : List Rl) (hl : l.length ≤ 90000) (hs : SmallQ l) (w : World) (h : HoldQ w v l) (hL : LaidV w) : Calls Tryz.prog 116 #[v] w fun e w' => e = .returned (.bool (l.all rightR)) ∧ Below w.heap.size w w' := by
 have EN : ∀ args w, (callFunc 156 args).run Tryz.prog w = .ok (.enter 156 args) w := enters_of Tryz.func156 (by kernel_rfl) rfl
 have C := contQ_any 156 #[] EN (fun x => !rightR x) v l hl w h (fun W x hx hb => by
   have := allRight1_any x (hs x hx) W (hL.on hb)
   simpa using this)
 have HA : Hid (l.all rightR = !(l.any fun x => !rightR x)) := Lib.hid (by rw [List.not_any_eq_all_not]; simp)
 rw [HA.out]
 obtain ⟨a, c, b, o, rfl, -⟩ := h.parts
 generalize (l.any fun x => !rightR x) = r at *
 generalize l.length = n at *
 clear EN h hs hL hl
 go_enter Tryz.func116, Tryz.ntmps116
 go_wp2_with (go_at_call 155; (with_reducible refine C.mono ?_); rintro e w1 ⟨rfl, hb⟩; have HB := Lib.hid hb; clear hb)
 go_ret
 exact ⟨rfl, HB.out⟩
set_option maxHeartbeats 4000000 in
theorem fullQ_any (a : Option Addr) (n c : Nat) (hn : n ≤ 90000) (w : World) : Calls Tryz.prog 115 #[.slice a n c] w fun e w' => e = .returned (.bool (decide (64 < n))) ∧ Below w.heap.size w w' := by
 have e : decide (64 < n) = decide (64 < (n : Int)) := by congr 1; apply propext; omega
 rw [e]
 go_enter Tryz.func115, Tryz.ntmps115
 go_wp2
 go_ret
 exact ⟨rfl, Below.refl _ _⟩
def listE (l : List Rl) : Bs × Int := if 64 < l.length then ([], 22) else if l.all rightR = true then (textQ l, 0) else ([], 1)
def TwoP (x : Bs × Int) (w : World) (e : Ending) (w' : World) : Prop := e = .returned (.tuple #[.string (bsT x.1), .int .i64 x.2]) ∧ Below w.heap.size w w'
set_option maxHeartbeats 8000000 in
theorem listQ_any (v : Value) (l : List Rl) (hl : l.length ≤ 90000) (hs : SmallQ l) (w : World) (h : HoldQ w v l) (hL : LaidV w) : Calls Tryz.prog 68 #[v] w (TwoP (listE l) w) := by
 have AR := fun W hb => allRight_any v l hl hs W (HoldV.on h hb) (hL.on hb)
 have JN := fun W hb => joinedR_any ⟨#[44, 32]⟩ (by decide) v l hl hs W (HoldV.on h hb)
 obtain ⟨a, c, b, o, rfl, -⟩ := h.parts
 have FU := fun W => fullQ_any a l.length c hl W
 by_cases h64 : 64 < l.length
 · rw [decide_eq_true h64] at FU
   have HP : Hid (∀ w', Below w.heap.size w w' → TwoP (listE l) w (.returned (.tuple #[.string ⟨#[]⟩, .int .i64 22])) w') := Lib.hid (fun w' hb => ⟨by unfold listE; rw [if_pos h64], hb⟩)
   generalize l.length = n at *
   clear h h64 AR JN hs hL hl
   go_enter Tryz.func68, Tryz.ntmps68
   go_wp2_with (go_at_call 115; (with_reducible refine (FU _).mono ?_); rintro e w1 ⟨rfl, hb⟩; have HB := Lib.hid hb; clear hb)
   go_ret2
   exact HP.out _ HB.out
 rw [decide_eq_false h64] at FU
 cases hr : l.all rightR
 · rw [hr] at AR
   have HP : Hid (∀ w', Below w.heap.size w w' → TwoP (listE l) w (.returned (.tuple #[.string ⟨#[]⟩, .int .i64 1])) w') := Lib.hid (fun w' hb => ⟨by unfold listE; rw [if_neg h64, hr]; rfl, hb⟩)
   generalize l.length = n at *
   clear h h64 JN hs hL hl hr
   go_enter Tryz.func68, Tryz.ntmps68
   go_wp2_with (first
     | (go_at_call 115; (with_reducible refine (FU _).mono ?_); rintro e w1 ⟨rfl, hb⟩; have HB := Lib.hid hb; clear hb)
     | (go_at_call 116; (with_reducible refine (AR _ HB.out).mono ?_); rintro e w2 ⟨rfl, hb⟩; have HB2 := Lib.hid (HB.out.trans (hb.mono HB.out.size)); clear hb))
   go_ret2
   exact HP.out _ HB2.out
 · rw [hr] at AR
   obtain ⟨R, hR⟩ : ∃ R, bsT (Lib.join (l.map textR) (ByteArray.mk #[44, 32]).data.toList) = R := ⟨_, rfl⟩
   rw [hR] at JN
   have HP : Hid (∀ w', Below w.heap.size w w' → TwoP (listE l) w (.returned (.tuple #[.string R, .int .i64 0])) w') := Lib.hid (fun w' hb => ⟨by unfold listE; rw [if_neg h64, hr, if_pos rfl, ← hR]; rfl, hb⟩)
   generalize l.length = n at *
   clear h h64 hs hL hl hr hR
   go_enter Tryz.func68, Tryz.ntmps68
   go_wp2_with (first
     | (go_at_call 115; (with_reducible refine (FU _).mono ?_); rintro e w1 ⟨rfl, hb⟩; have HB := Lib.hid hb; clear hb)
     | (go_at_call 116; (with_reducible refine (AR _ HB.out).mono ?_); rintro e w2 ⟨rfl, hb⟩; have HB2 := Lib.hid (HB.out.trans (hb.mono HB.out.size)); clear hb)
     | (go_at_call 119; (with_reducible refine (JN _ HB2.out).mono ?_); rintro e w3 ⟨rfl, hb⟩; have HB3 := Lib.hid (HB2.out.trans (hb.mono HB2.out.size)); clear hb))
   go_ret2
   exact HP.out _ HB3.out
end Go.Proofs.YtnnagboeimeiiaaGreatDoor
namespace Go.Proofs.YtnnagboeimeiiaaGreatDoor
open Go.RowKit
set_option maxRecDepth 100000 in
set_option maxHeartbeats 4000000 in
theorem nameBig_any (s : ByteArray) (hs : s.size ≤ maxLen) (w : World) : Calls Tryz.prog 46 #[.string s] w fun e w' => e = .returned (.bool (nameB s.data.toList)) ∧ w = w' := by
 by_cases h : s.size ≤ 4000
 · exact name_any s h w
 · have hl := Lib.size_eq s
   have hB : nameB s.data.toList = false := by
     unfold nameB
     rw [show decide (s.data.toList.length ≤ 60) = false by simp; omega]
     simp
   rw [hB]
   clear hB hl
   unfold maxLen at hs
   go_enter Tryz.func46, Tryz.ntmps46
   go_wp2
   go_ret
   exact ⟨rfl, rfl⟩
set_option maxRecDepth 100000 in
set_option maxHeartbeats 4000000 in
theorem parseBig_any (s : ByteArray) (hs : s.size ≤ maxLen) (w : World) (h : LaidV w) : Calls Tryz.prog 95 #[.string s] w (ParsePost s.data.toList w) := by
 by_cases h4 : s.size ≤ 4000
 · exact parse_any s h4 w h
 · have hl := sizeOf s
   have HP : Hid (∀ e w', e = .returned (.tuple #[.agg #[.int .i64 0, .string ⟨#[]⟩, .string ⟨#[]⟩], .int .i64 8]) → Below w.heap.size w w' → ParsePost s.data.toList w e w') := Lib.hid (fun e w' h g => ⟨by rw [parseV_long (by omega)]; exact h, g⟩)
   clear hl h
   unfold maxLen at hs
   go_enter Tryz.func95, Tryz.ntmps95
   go_wp2
   exact bodyPost_ret (v := .tuple #[.agg #[.int .i64 0, .string ⟨#[]⟩, .string ⟨#[]⟩], .int .i64 8]) (by simp [results, Tryz.results95, go_sem]) rfl (HP.out _ _ rfl ((Below.refl _ _).alloc (Nat.le_refl _) _))
end Go.Proofs.YtnnagboeimeiiaaGreatDoor
namespace Go.Proofs.YtnnagboeimeiiaaGreatDoor
open Go.RowKit
set_option maxHeartbeats 4000000 in
theorem isVersionBig_any (v : ByteArray) (hv : v.size ≤ maxLen) (w : World) (h : LaidV w) : Calls Tryz.prog 186 #[.string v] w fun e w' => e = .returned (.bool (decide ((parseE v.data.toList).2 = 0))) ∧ Below w.heap.size w w' := by
 have PV := parseBig_any v hv w h
 unfold ParsePost parseV verV at PV
 obtain ⟨k, hk⟩ : ∃ k : Int, (parseE v.data.toList).2 = k := ⟨_, rfl⟩
 obtain ⟨z, hz⟩ : ∃ z : Int, (parseE v.data.toList).1.1 = z := ⟨_, rfl⟩
 obtain ⟨U, hU⟩ : ∃ U : ByteArray, (⟨((parseE v.data.toList).1.2.1).toArray⟩ : ByteArray) = U := ⟨_, rfl⟩
 obtain ⟨V, hV⟩ : ∃ V : ByteArray, (⟨((parseE v.data.toList).1.2.2).toArray⟩ : ByteArray) = V := ⟨_, rfl⟩
 simp only [hk, hz, hU, hV] at PV ⊢
 have hkd : Hid (decide (k = 0) = (k == 0)) := Lib.hid rfl
 clear hk hz hU hV h
 go_enter Tryz.func186, Tryz.ntmps186
 go_wp2_with (go_at_call 95; (with_reducible refine PV.mono ?_); rintro e w2 ⟨rfl, hb⟩; have HB := Lib.hid (hb.alloc hb.size (.cells #[.int .i64 z, .string U, .string V] 81)); clear hb)
 go_ret
 exact ⟨retb hkd.out.symm, HB.out⟩
set_option maxRecDepth 100000 in
set_option maxHeartbeats 8000000 in
theorem rightRBig_any (n o v : ByteArray) (hn : n.size ≤ maxLen) (hv : v.size ≤ maxLen) (w : World) (hL : LaidV w) :
   Calls Tryz.prog 157 #[.agg #[.string n, .string o, .string v]] w fun e w' => e = .returned (.bool (rightR (n.data.toList, o.data.toList, v.data.toList))) ∧ Below w.heap.size w w' := by
 have NM := fun w => nameBig_any n hn w
 have OP := fun w => operator_any o w
 have IV := fun w h => isVersionBig_any v hv w h
 obtain ⟨R, hR⟩ : ∃ R, rightR (n.data.toList, o.data.toList, v.data.toList) = R := ⟨_, rfl⟩
 have hrt := right_to (n.data.toList, o.data.toList, v.data.toList)
 rw [hR] at hrt ⊢
 have hez := emptyT o
 have hev := emptyT v
 have hal : ∀ (o : Obj), Below w.heap.size w (w.alloc o) := fun o => (Below.refl _ _).alloc (Nat.le_refl _) _
 have HAL := Lib.hid hal
 have HLA := Lib.hid (fun o => hL.on (hal o))
 clear hR hal hL
 cases hrt with
 | name h =>
   simp only [] at h
   simp only [h] at NM
   clear hez hev
   go_enter Tryz.func157, Tryz.ntmps157
   go_wp2_with (go_at_call 46; (with_reducible refine (NM _).mono ?_); rintro e w1 ⟨rfl, rfl⟩)
   go_ret
   exact ⟨rfl, HAL.out _⟩
 | bare h h2 =>
   simp only [] at h h2
   simp only [h] at NM
   have ho : o.size = 0 := by rw [sizeOf, h2]; rfl
   rw [decide_eq_true ho] at hez
   have hvv : decide (v.data.toList = []) = decide (v.size = 0) := by
     congr 1
     rw [sizeOf, List.length_eq_zero_iff]
   simp only [hvv]
   rw [h2, show opB [] = false from rfl] at OP
   obtain ⟨q, hq⟩ : ∃ q, decide (v.size = 0) = q := ⟨_, rfl⟩
   rw [hq] at hev ⊢
   clear ho h h2 hvv hq
   cases q
   all_goals
     go_enter Tryz.func157, Tryz.ntmps157
     go_wp2_with (first
       | (go_at_call 46; (with_reducible refine (NM _).mono ?_); rintro e w1 ⟨rfl, rfl⟩)
       | (go_at_call 185; (with_reducible refine (OP _).mono ?_); rintro e w2 ⟨rfl, rfl⟩))
     go_ret
     exact ⟨rfl, HAL.out _⟩
 | op h h2 =>
   simp only [] at h h2
   simp only [h] at NM
   have ho : ¬ o.size = 0 := fun e => h2 (List.eq_nil_of_length_eq_zero (by rw [← sizeOf]; exact e))
   rw [decide_eq_false ho] at hez
   obtain ⟨kb, hkb⟩ : ∃ kb, decide ((parseE v.data.toList).2 = 0) = kb := ⟨_, rfl⟩
   simp only [hkb] at IV ⊢
   obtain ⟨ob, hob⟩ : ∃ ob, opB o.data.toList = ob := ⟨_, rfl⟩
   simp only [hob] at OP ⊢
   clear ho h h2 hev hkb hob
   cases ob
   · go_enter Tryz.func157, Tryz.ntmps157
     go_wp2_with (first
       | (go_at_call 46; (with_reducible refine (NM _).mono ?_); rintro e w1 ⟨rfl, rfl⟩)
       | (go_at_call 185; (with_reducible refine (OP _).mono ?_); rintro e w2 ⟨rfl, rfl⟩))
     go_ret
     exact ⟨rfl, HAL.out _⟩
   · go_enter Tryz.func157, Tryz.ntmps157
     go_wp2_with (first
       | (go_at_call 46; (with_reducible refine (NM _).mono ?_); rintro e w1 ⟨rfl, rfl⟩)
       | (go_at_call 185; (with_reducible refine (OP _).mono ?_); rintro e w2 ⟨rfl, rfl⟩)
       | (go_at_call 186; (with_reducible refine (IV _ (HLA.out _)).mono ?_); rintro e w3 ⟨rfl, hb⟩; have HB := Lib.hid ((HAL.out _).trans (hb.mono (HAL.out _).size)); clear hb))
     go_ret
     exact ⟨rfl, HB.out⟩
end Go.Proofs.YtnnagboeimeiiaaGreatDoor
namespace Go.Proofs.YtnnagboeimeiiaaGreatDoor
open Go.RowKit
def BigQ (l : List Rl) : Prop := ∀ x ∈ l, x.1.length ≤ maxLen ∧ x.2.1.length ≤ maxLen ∧ x.2.2.length ≤ maxLen
theorem smallR_right {x : Rl} (h : rightR x = true) : x.1.length ≤ 4000 ∧ x.2.1.length ≤ 4000 ∧ x.2.2.length ≤ 4000 := by
 unfold rightR at h
 rw [Bool.and_eq_true] at h
 have h1 : x.1.length ≤ 60 := by
   have := h.1
   unfold nameB at this
   simp only [Bool.and_eq_true, decide_eq_true_eq] at this
   omega
 by_cases h2 : x.2.1 = []
 · rw [if_pos h2, decide_eq_true_eq] at h
   rw [h2, h.2]
   exact ⟨by omega, by simp, by simp⟩
 · rw [if_neg h2, Bool.and_eq_true, decide_eq_true_eq] at h
   have h3 : x.2.1.length ≤ 2 := by
     have := h.2.1
     unfold opB at this
     simp only [Bool.or_eq_true, decide_eq_true_eq] at this
     rcases this with ((((e | e) | e) | e) | e) <;> rw [e] <;> simp
   have h4 : x.2.2.length ≤ 80 := by
     by_cases h80 : 80 < x.2.2.length
     · have := h.2.2
       unfold parseE at this
       rw [if_pos h80] at this
       simp at this
     · omega
   exact ⟨by omega, by omega, by omega⟩
theorem smallQ_right {l : List Rl} (h : l.all rightR = true) : SmallQ l := fun x hx => smallR_right (List.all_eq_true.1 h x hx)
set_option maxHeartbeats 4000000 in
theorem allRight1Big_any (x : Rl) (h1 : x.1.length ≤ maxLen ∧ x.2.1.length ≤ maxLen ∧ x.2.2.length ≤ maxLen) (w : World) (hL : LaidV w) : Calls Tryz.prog 156 #[aggQ x] w fun e w' => e = .returned (.bool (!rightR x)) ∧ Below w.heap.size w w' := by
 have R := fun W h => rightRBig_any (bsT x.1) (bsT x.2.1) (bsT x.2.2) (by rw [sizeOf, bytesOf]; omega) (by rw [sizeOf, bytesOf]; omega) W h
 rw [bytesOf, bytesOf, bytesOf] at R
 obtain ⟨p, q, z⟩ := x
 dsimp only at R ⊢
 unfold aggQ
 dsimp only
 generalize rightR (p, q, z) = r at *
 have HBA : Hid (∀ o, Below w.heap.size w (w.alloc o)) := Lib.hid (fun o => (Below.refl _ _).alloc (Nat.le_refl _) o)
 have HLA := Lib.hid (fun o => hL.on (HBA.out o))
 generalize bsT p = P at *
 generalize bsT q = Q at *
 generalize bsT z = Z at *
 clear hL h1
 go_enter Tryz.func156, Tryz.ntmps156
 go_wp2_with (go_at_call 157; (with_reducible refine (R _ (HLA.out _)).mono ?_); rintro e w1 ⟨rfl, hb⟩; have HB := Lib.hid ((HBA.out _).trans (hb.mono (HBA.out _).size)); clear hb)
 go_ret
 exact ⟨rfl, HB.out⟩
set_option maxHeartbeats 4000000 in
theorem allRightBig_any (v : Value) (l : List Rl) (hl : l.length ≤ 90000) (hs : BigQ l) (w : World) (h : HoldQ w v l) (hL : LaidV w) : Calls Tryz.prog 116 #[v] w fun e w' => e = .returned (.bool (l.all rightR)) ∧ Below w.heap.size w w' := by
 have EN : ∀ args w, (callFunc 156 args).run Tryz.prog w = .ok (.enter 156 args) w := enters_of Tryz.func156 (by kernel_rfl) rfl
 have C := contQ_any 156 #[] EN (fun x => !rightR x) v l hl w h (fun W x hx hb => by
   have := allRight1Big_any x (hs x hx) W (hL.on hb)
   simpa using this)
 have HA : Hid (l.all rightR = !(l.any fun x => !rightR x)) := Lib.hid (by rw [List.not_any_eq_all_not]; simp)
 rw [HA.out]
 obtain ⟨a, c, b, o, rfl, -⟩ := h.parts
 generalize (l.any fun x => !rightR x) = r at *
 generalize l.length = n at *
 clear EN h hs hL hl
 go_enter Tryz.func116, Tryz.ntmps116
 go_wp2_with (go_at_call 155; (with_reducible refine C.mono ?_); rintro e w1 ⟨rfl, hb⟩; have HB := Lib.hid hb; clear hb)
 go_ret
 exact ⟨rfl, HB.out⟩
set_option maxHeartbeats 8000000 in
theorem listBig_any (v : Value) (l : List Rl) (hl : l.length ≤ 90000) (hs : BigQ l) (w : World) (h : HoldQ w v l) (hL : LaidV w) : Calls Tryz.prog 68 #[v] w (TwoP (listE l) w) := by
 have AR := fun W hb => allRightBig_any v l hl hs W (HoldV.on h hb) (hL.on hb)
 have HH := Lib.hid h
 have hvf : ∃ a c, v = .slice a l.length c := by obtain ⟨a, c, b, o, e, -⟩ := h.parts; exact ⟨a, c, e⟩
 obtain ⟨a, c, hve⟩ := hvf
 have JN0 : Hid (l.all rightR = true → ∀ W, Below w.heap.size w W → Calls Tryz.prog 119 #[.slice a l.length c, .string ⟨#[44, 32]⟩, .func (.func 120) #[] #[]] W fun e w' => e = .returned (.string (bsT (Lib.join (l.map textR) (ByteArray.mk #[44, 32]).data.toList))) ∧ Below W.heap.size W w') := Lib.hid (fun hr W hb => by
   have := joinedR_any ⟨#[44, 32]⟩ (by decide) v l hl (smallQ_right hr) W (HoldV.on HH.out hb)
   rw [hve] at this
   exact this)
 subst hve
 clear HH
 have FU := fun W => fullQ_any a l.length c hl W
 by_cases h64 : 64 < l.length
 · rw [decide_eq_true h64] at FU
   have HP : Hid (∀ w', Below w.heap.size w w' → TwoP (listE l) w (.returned (.tuple #[.string ⟨#[]⟩, .int .i64 22])) w') := Lib.hid (fun w' hb => ⟨by unfold listE; rw [if_pos h64], hb⟩)
   generalize l.length = n at *
   clear h h64 AR JN0 hs hL hl
   go_enter Tryz.func68, Tryz.ntmps68
   go_wp2_with (go_at_call 115; (with_reducible refine (FU _).mono ?_); rintro e w1 ⟨rfl, hb⟩; have HB := Lib.hid hb; clear hb)
   go_ret2
   exact HP.out _ HB.out
 rw [decide_eq_false h64] at FU
 cases hr : l.all rightR
 · rw [hr] at AR
   have HP : Hid (∀ w', Below w.heap.size w w' → TwoP (listE l) w (.returned (.tuple #[.string ⟨#[]⟩, .int .i64 1])) w') := Lib.hid (fun w' hb => ⟨by unfold listE; rw [if_neg h64, hr]; rfl, hb⟩)
   generalize l.length = n at *
   clear h h64 JN0 hs hL hl hr
   go_enter Tryz.func68, Tryz.ntmps68
   go_wp2_with (first
     | (go_at_call 115; (with_reducible refine (FU _).mono ?_); rintro e w1 ⟨rfl, hb⟩; have HB := Lib.hid hb; clear hb)
     | (go_at_call 116; (with_reducible refine (AR _ HB.out).mono ?_); rintro e w2 ⟨rfl, hb⟩; have HB2 := Lib.hid (HB.out.trans (hb.mono HB.out.size)); clear hb))
   go_ret2
   exact HP.out _ HB2.out
 · rw [hr] at AR
   have JN := fun W hb => JN0.out hr W hb
   clear JN0
   obtain ⟨R, hR⟩ : ∃ R, bsT (Lib.join (l.map textR) (ByteArray.mk #[44, 32]).data.toList) = R := ⟨_, rfl⟩
   rw [hR] at JN
   have HP : Hid (∀ w', Below w.heap.size w w' → TwoP (listE l) w (.returned (.tuple #[.string R, .int .i64 0])) w') := Lib.hid (fun w' hb => ⟨by unfold listE; rw [if_neg h64, hr, if_pos rfl, ← hR]; rfl, hb⟩)
   generalize l.length = n at *
   clear h h64 hs hL hl hr hR
   go_enter Tryz.func68, Tryz.ntmps68
   go_wp2_with (first
     | (go_at_call 115; (with_reducible refine (FU _).mono ?_); rintro e w1 ⟨rfl, hb⟩; have HB := Lib.hid hb; clear hb)
     | (go_at_call 116; (with_reducible refine (AR _ HB.out).mono ?_); rintro e w2 ⟨rfl, hb⟩; have HB2 := Lib.hid (HB.out.trans (hb.mono HB.out.size)); clear hb)
     | (go_at_call 119; (with_reducible refine (JN _ HB2.out).mono ?_); rintro e w3 ⟨rfl, hb⟩; have HB3 := Lib.hid (HB2.out.trans (hb.mono HB2.out.size)); clear hb))
   go_ret2
   exact HP.out _ HB3.out
end Go.Proofs.YtnnagboeimeiiaaGreatDoor
