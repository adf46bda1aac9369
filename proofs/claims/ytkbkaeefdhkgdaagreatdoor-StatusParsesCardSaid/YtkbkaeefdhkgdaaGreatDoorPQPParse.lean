import Derived.Test.YtkbkaeefdhkgdaaGreatDoorPVPParse
import Derived.Test.YtkbkaeefdhkgdaaGreatDoorPUKeyT
import Derived.Test.YtkbkaeefdhkgdaaGreatDoorPQGroup2
import Derived.Test.YtkbkaeefdhkgdaaGreatDoorPQParse
set_option maxRecDepth 100000
set_option maxHeartbeats 32000000
namespace Go.Proofs.YtkbkaeefdhkgdaaGreatDoor
section
open Go.RowKit
theorem operator_any (o : ByteArray) (w : World) : Calls Tryz.prog 156 #[.string o] w fun e w' => e = .returned (.bool (opB o.data.toList)) ∧ w = w' := by
 have e1 := eqTL o [60, 60]
 have e2 := eqTL o [60, 61]
 have e3 := eqTL o [61]
 have e4 := eqTL o [62, 61]
 have e5 := eqTL o [62, 62]
 obtain ⟨b1, b2, b3, b4, b5, g1, g2, g3, g4, g5, hop⟩ : ∃ b1 b2 b3 b4 b5, (o.toList == [60, 60]) = b1 ∧ (o.toList == [60, 61]) = b2 ∧ (o.toList == [61]) = b3 ∧ (o.toList == [62, 61]) = b4 ∧ (o.toList == [62, 62]) = b5 ∧ opB o.data.toList = ((((b1 || b2) || b3) || b4) || b5) := ⟨_, _, _, _, _, e1, e2, e3, e4, e5, rfl⟩
 have hways : (b1 = true) ∨ (b1 = false ∧ b2 = true) ∨ (b1 = false ∧ b2 = false ∧ b3 = true) ∨ (b1 = false ∧ b2 = false ∧ b3 = false ∧ b4 = true) ∨ (b1 = false ∧ b2 = false ∧ b3 = false ∧ b4 = false ∧ b5 = true) ∨ (b1 = false ∧ b2 = false ∧ b3 = false ∧ b4 = false ∧ b5 = false) := by
  cases b1 <;> cases b2 <;> cases b3 <;> cases b4 <;> cases b5 <;> simp
 clear e1 e2 e3 e4 e5
 rcases hways with rfl | ⟨rfl, rfl⟩ | ⟨rfl, rfl, rfl⟩ | ⟨rfl, rfl, rfl, rfl⟩ | ⟨rfl, rfl, rfl, rfl, rfl⟩ | ⟨rfl, rfl, rfl, rfl, rfl⟩
 all_goals
  simp only [Bool.true_or, Bool.or_true, Bool.or_false] at hop
  rw [hop]
  clear hop
  go_enter Tryz.func156, Tryz.ntmps156
  go_wp2
  go_ret
  exact ⟨rfl, rfl⟩
theorem isVersion_any (v : ByteArray) (hv : v.size ≤ 4000) (w : World) (h : LaidV w) : Calls Tryz.prog 157 #[.string v] w fun e w' => e = .returned (.bool (decide ((parseE v.data.toList).2 = 0))) ∧ Below w.heap.size w w' := by
 have PV := parse_any v hv w h
 unfold ParsePost parseV verV at PV
 obtain ⟨k, hk⟩ : ∃ k : Int, (parseE v.data.toList).2 = k := ⟨_, rfl⟩
 obtain ⟨z, hz⟩ : ∃ z : Int, (parseE v.data.toList).1.1 = z := ⟨_, rfl⟩
 obtain ⟨U, hU⟩ : ∃ U : ByteArray, (⟨((parseE v.data.toList).1.2.1).toArray⟩ : ByteArray) = U := ⟨_, rfl⟩
 obtain ⟨V, hV⟩ : ∃ V : ByteArray, (⟨((parseE v.data.toList).1.2.2).toArray⟩ : ByteArray) = V := ⟨_, rfl⟩
 simp only [hk, hz, hU, hV] at PV ⊢
 have hkd : Hid (decide (k = 0) = (k == 0)) := Lib.hid rfl
 clear hk hz hU hV h
 go_enter Tryz.func157, Tryz.ntmps157
 go_wp2_with (go_at_call 101; (with_reducible refine PV.mono ?_); rintro e w2 ⟨rfl, hb⟩; have HB := Lib.hid (hb.alloc hb.size (.cells #[.int .i64 z, .string U, .string V] 100)); clear hb)
 go_ret
 exact ⟨retb hkd.out.symm, HB.out⟩
theorem rightR_any (n o v : ByteArray) (hn : n.size ≤ 4000) (hv : v.size ≤ 4000) (w : World) (hL : LaidV w) :
  Calls Tryz.prog 127 #[.agg #[.string n, .string o, .string v]] w fun e w' => e = .returned (.bool (rightR (n.data.toList, o.data.toList, v.data.toList))) ∧ Below w.heap.size w w' := by
 have NM := fun w => name_any n hn w
 have OP := fun w => operator_any o w
 have IV := fun w h => isVersion_any v hv w h
 obtain ⟨R, hR⟩ : ∃ R, rightR (n.data.toList, o.data.toList, v.data.toList) = R := ⟨_, rfl⟩
 have hrt := right_to (n.data.toList, o.data.toList, v.data.toList)
 rw [hR] at hrt ⊢
 have hez := emptyT o
 have hev := emptyT v
 have hal : ∀ (o : Obj), Below w.heap.size w (w.alloc o) := fun o => (Below.refl _ _).alloc (Nat.le_refl _) _
 have HAL := Lib.hid hal
 have HLA := Lib.hid (fun o => hL.on (hal o))
 clear hR hal hL
 cases hrt with
 | name h =>
  simp only [] at h
  simp only [h] at NM
  clear hez hev
  go_enter Tryz.func127, Tryz.ntmps127
  go_wp2_with (go_at_call 52; (with_reducible refine (NM _).mono ?_); rintro e w1 ⟨rfl, rfl⟩)
  go_ret
  exact ⟨rfl, HAL.out _⟩
 | bare h h2 =>
  simp only [] at h h2
  simp only [h] at NM
  have ho : o.size = 0 := by rw [sizeOf, h2]; rfl
  rw [decide_eq_true ho] at hez
  have hvv : decide (v.data.toList = []) = decide (v.size = 0) := by
   congr 1
   rw [sizeOf, List.length_eq_zero_iff]
  simp only [hvv]
  rw [h2, show opB [] = false from rfl] at OP
  obtain ⟨q, hq⟩ : ∃ q, decide (v.size = 0) = q := ⟨_, rfl⟩
  rw [hq] at hev ⊢
  clear ho h h2 hvv hq
  cases q
  all_goals
   go_enter Tryz.func127, Tryz.ntmps127
   go_wp2_with (first
    | (go_at_call 52; (with_reducible refine (NM _).mono ?_); rintro e w1 ⟨rfl, rfl⟩)
    | (go_at_call 156; (with_reducible refine (OP _).mono ?_); rintro e w2 ⟨rfl, rfl⟩))
   go_ret
   exact ⟨rfl, HAL.out _⟩
 | op h h2 =>
  simp only [] at h h2
  simp only [h] at NM
  have ho : ¬ o.size = 0 := fun e => h2 (List.eq_nil_of_length_eq_zero (by rw [← sizeOf]; exact e))
  rw [decide_eq_false ho] at hez
  obtain ⟨kb, hkb⟩ : ∃ kb, decide ((parseE v.data.toList).2 = 0) = kb := ⟨_, rfl⟩
  simp only [hkb] at IV ⊢
  obtain ⟨ob, hob⟩ : ∃ ob, opB o.data.toList = ob := ⟨_, rfl⟩
  simp only [hob] at OP ⊢
  clear ho h h2 hev hkb hob
  cases ob
  ·
   go_enter Tryz.func127, Tryz.ntmps127
   go_wp2_with (first
    | (go_at_call 52; (with_reducible refine (NM _).mono ?_); rintro e w1 ⟨rfl, rfl⟩)
    | (go_at_call 156; (with_reducible refine (OP _).mono ?_); rintro e w2 ⟨rfl, rfl⟩))
   go_ret
   exact ⟨rfl, HAL.out _⟩
  ·
   go_enter Tryz.func127, Tryz.ntmps127
   go_wp2_with (first
    | (go_at_call 52; (with_reducible refine (NM _).mono ?_); rintro e w1 ⟨rfl, rfl⟩)
    | (go_at_call 156; (with_reducible refine (OP _).mono ?_); rintro e w2 ⟨rfl, rfl⟩)
    | (go_at_call 157; (with_reducible refine (IV _ (HLA.out _)).mono ?_); rintro e w3 ⟨rfl, hb⟩; have HB := Lib.hid ((HAL.out _).trans (hb.mono (HAL.out _).size)); clear hb))
   go_ret
   exact ⟨rfl, HB.out⟩
theorem textR_any (n o v : ByteArray) (hn : n.size ≤ 100000) (ho : o.size ≤ 100000) (hv : v.size ≤ 100000) (w : World) :
  Calls Tryz.prog 88 #[.agg #[.string n, .string o, .string v]] w fun e w' => e = .returned (.string ⟨(textR (n.data.toList, o.data.toList, v.data.toList)).toArray⟩) ∧ Below w.heap.size w w' := by
 obtain ⟨T, hT⟩ : ∃ T : ByteArray, T = ⟨(textR (n.data.toList, o.data.toList, v.data.toList)).toArray⟩ := ⟨_, rfl⟩
 rw [← hT]
 have h1s : ∀ x, (ByteArray.mk #[x]).size = 1 := fun _ => rfl
 have h2s : ∀ x y, (ByteArray.mk #[x, y]).size = 2 := fun _ _ => rfl
 have hez := emptyT o
 by_cases h0 : o.size = 0
 ·
  rw [decide_eq_true h0] at hez
  have HT : Hid (T = n) := Lib.hid (by
   rw [hT]; unfold textR
   rw [if_pos (List.eq_nil_of_length_eq_zero (by rw [← sizeOf]; exact h0))])
  clear hT h0
  go_enter Tryz.func88, Tryz.ntmps88
  go_wp2
  go_ret
  exact ⟨by rw [HT.out]; rfl, (Below.refl _ _).alloc (Nat.le_refl _) _⟩
 ·
  rw [decide_eq_false h0] at hez
  have HT : Hid (T = ((((n ++ ⟨#[32, 40]⟩) ++ o) ++ ⟨#[32]⟩) ++ v) ++ ⟨#[41]⟩) := Lib.hid (by
   rw [hT]; unfold textR
   rw [if_neg (fun e => h0 (by rw [sizeOf, show o.data.toList = [] from e]; rfl))]
   refine (strOf ?_).symm
   simp only [ByteArray.data_append, Array.toList_append]
   simp)
  clear hT h0
  go_enter Tryz.func88, Tryz.ntmps88
  go_wp2
  go_ret
  exact ⟨by rw [HT.out]; rfl, (Below.refl _ _).alloc (Nat.le_refl _) _⟩
end
section
open Go.RowKit
theorem joinM_len (sep : Bs) (N : Nat) : ∀ (l : List Bs), (∀ p ∈ l, p.length ≤ N) → (Lib.join l sep).length ≤ l.length * (N + sep.length)
 | [], _ => by simp [Lib.join, List.intercalate]
 | [p], h => by have := h p (by simp); rw [Lib.join_one]; simp; omega
 | p :: q :: ps, h => by
  have h1 := joinM_len sep N (q :: ps) (fun x hx => h x (List.mem_cons_of_mem _ hx))
  have h2 := h p (by simp)
  rw [join_two, List.length_append, List.length_append, List.length_cons (a := p), Nat.add_mul]
  omega
theorem joinM_any (sep : ByteArray) (hsep : sep.size ≤ 10) (v : Value) (ls : List Bs) (hl : ls.length ≤ 90000) (hs : ∀ p ∈ ls, p.length ≤ 10000000) (w : World) (h : HoldT w v ls) :
  Calls Tryz.prog 43 #[v, .string sep] w fun e w' => e = .returned (.string (bsT (Lib.join ls sep.data.toList))) ∧ Below w.heap.size w w' := by
 obtain ⟨a, c, b, o, rfl, hc, ha, hcell⟩ := h
 by_cases h0 : ls = []
 ·
  subst h0
  exact (Tryz.strings_Join_none a c sep w).mono (fun _ _ hp => ⟨hp.1, by rw [hp.2]; exact Below.refl _ _⟩)
 have h1 : 0 < ls.length := List.length_pos_iff.2 h0
 obtain ⟨rfl, hb⟩ := ha h1
 have hm : (ls.map fun l => ByteArray.mk l.toArray).map (fun x => x.data.toList) = ls := by
  rw [List.map_map]; conv => rhs; rw [← List.map_id ls]
  exact List.map_congr_left (fun l _ => by simp)
 have hj := joinM_len sep.data.toList 10000000 ls hs
 rw [← sizeOf] at hj
 have hjj : ls.length * (10000000 + sep.size) ≤ 90000 * 10000010 := Nat.mul_le_mul hl (by omega)
 have := Tryz.strings_Join b o c (ls.map fun l => ByteArray.mk l.toArray) sep w (fun j x hx => by
  rw [List.getElem?_map] at hx
  cases hg : ls[j]? with
  | none => rw [hg] at hx; cases hx
  | some l => rw [hg] at hx; obtain rfl := Option.some.inj hx; exact hcell j l hg) hb (by rw [List.length_map]; omega) (by rw [List.length_map]; exact hc) (by rw [hm]; omega)
 rw [hm, List.length_map] at this
 exact this
theorem map_snocQ {α β : Type} (f : α → β) {l : List α} {k : Nat} {x : α} (h : l[k]? = some x) : (l.take (k + 1)).map f = (l.take k).map f ++ [f x] := by
 rw [List.take_add_one, h, List.map_append]; rfl
def SmallQ (l : List Rl) : Prop := ∀ x ∈ l, x.1.length ≤ 4000 ∧ x.2.1.length ≤ 4000 ∧ x.2.2.length ≤ 4000
theorem textR_len {x : Rl} (h : x.1.length ≤ 4000 ∧ x.2.1.length ≤ 4000 ∧ x.2.2.length ≤ 4000) : (textR x).length ≤ 12004 := by
 unfold textR
 split
 ·
  omega
 ·
  simp; omega
theorem textG_len {g : List Rl} (h : SmallQ g) (hl : g.length ≤ 500) : (textG g).length ≤ 7000000 := by
 have := joinM_len sepG 12004 (g.map textR) (fun p hp => by obtain ⟨x, hx, rfl⟩ := List.mem_map.1 hp; exact textR_len (h x hx))
 rw [List.length_map] at this
 have h2 : g.length * (12004 + sepG.length) ≤ 500 * 12007 := Nat.mul_le_mul_right _ hl
 unfold textG; omega
theorem joinedR_any (sep : ByteArray) (hsep : sep.size ≤ 10) (v : Value) (l : List Rl) (hl : l.length ≤ 90000) (hs : SmallQ l) (w : World) (h : HoldQ w v l) :
  Calls Tryz.prog 87 #[v, .string sep, .func (.func 88) #[] #[]] w fun e w' => e = .returned (.string (bsT (Lib.join (l.map textR) sep.data.toList))) ∧ Below w.heap.size w w' := by
 obtain ⟨a, c, b, o, rfl, hc, ha, hcell⟩ := h.parts
 obtain ⟨i0, hi, hz0, hz1, hz2'⟩ := info_parts infoT
 have HC := Lib.hid hcell
 have HS := Lib.hid hs
 have HSEP := Lib.hid hsep
 have EN : ∀ args w, (callFunc 88 args).run Tryz.prog w = .ok (.enter 88 args) w := enters_of Tryz.func88 (by kernel_rfl) rfl
 obtain ⟨R, hR⟩ : ∃ R, bsT (Lib.join (l.map textR) sep.data.toList) = R := ⟨_, rfl⟩
 rw [hR]
 have HR := Lib.hid hR
 obtain ⟨n, hN⟩ : ∃ n, l.length = n := ⟨_, rfl⟩
 rw [hN] at hc ha hl ⊢
 have HN := Lib.hid hN
 clear hcell hN h hs hsep hR
 go_enter Tryz.func87, Tryz.ntmps87
 go_wp2
 go_loopw [7, 12] (fun u i wr => ∃ k : Nat, k ≤ n ∧ i = .int .i64 k ∧ Hid (OwnT wr w.heap.size u ((l.take k).map textR)) ∧ Hid (Below w.heap.size w wr)) (fun _ i _ => n - (intOf i).toNat)
 case atStart => exact ⟨0, by omega, rfl, Lib.hid (OwnT.nil _ _), Lib.hid (Below.refl _ _)⟩
 case round =>
  obtain ⟨k, hk, rfl, HO, HB⟩ := hrel
  have hsz := HB.out.size
  by_cases hlt : k < n
  ·
   obtain ⟨rfl, hbw⟩ := ha (by omega)
   obtain ⟨⟨p, q, z⟩, hx⟩ : ∃ x, l[k]? = some x := ⟨_, List.getElem?_eq_getElem (by rw [HN.out]; exact hlt)⟩
   obtain ⟨c0, c1, c2⟩ := HC.out k _ hx
   have hsm := HS.out _ (List.mem_of_getElem? hx)
   dsimp only at c0 c1 c2 hsm
   rw [← HB.out.cell (p := ⟨b, o + k * 3, none⟩) hbw] at c0
   rw [← HB.out.cell (p := ⟨b, o + k * 3 + 1, none⟩) hbw] at c1
   rw [← HB.out.cell (p := ⟨b, o + k * 3 + 2, none⟩) hbw] at c2
   have TX := fun W => textR_any (bsT p) (bsT q) (bsT z) (by rw [sizeOf, bytesOf]; omega) (by rw [sizeOf, bytesOf]; omega) (by rw [sizeOf, bytesOf]; omega) W
   rw [bytesOf, bytesOf, bytesOf] at TX
   have HSN := Lib.hid (map_snocQ textR hx)
   obtain ⟨T, hT⟩ : ∃ T : ByteArray, (⟨(textR (p, q, z)).toArray⟩ : ByteArray) = T := ⟨_, rfl⟩
   have HT : Hid (T.data.toList = textR (p, q, z)) := Lib.hid (by rw [← hT])
   rw [hT] at TX
   have hlen : ((l.take k).map textR).length = k := by rw [List.length_map, List.length_take, HN.out]; omega
   obtain ⟨L, hL⟩ : ∃ L, (l.take k).map textR = L := ⟨_, rfl⟩
   rw [hL] at HO hlen HSN
   have HLEN := Lib.hid hlen
   generalize bsT p = P at *
   generalize bsT q = Q at *
   generalize bsT z = Z at *
   have B0 := (Below.refl wr.heap.size wr).alloc (Nat.le_refl _) (.cells #[.string P, .string Q, .string Z] 46)
   have HB0 := Lib.hid (HB.out.trans (B0.mono hsz))
   have HO0 : Hid (OwnT (wr.alloc (.cells #[.string P, .string Q, .string Z] 46)) w.heap.size u7 L) := Lib.hid (World.ownsRow.alloc HO.out _)
   clear hx hT hlen hsm B0 HO HB hL
   go_wp2_with (first
    | (go_at_fn 88; (with_reducible refine (TX _).mono ?_); rintro e w2 ⟨rfl, hb⟩; have HB2 := Lib.hid (HB0.out.trans (hb.mono HB0.out.size)); have HO2 : Hid (OwnT w2 w.heap.size u7 L) := Lib.hid (World.ownsRow.kept HO0.out (grownV hb) (by cases u7.ownBlock <;> simp)); have hz2 := HB2.out.size; clear hb TX)
    | (at_builtin; refine wpList_append_own _ rfl _ _ 40 rfl w.heap.size 9 i0 _ 1 16 Tryz.underlying40 hi hz0 hz1 hz2' rfl (by decide) _ _ _ rfl (World.ownsRow.alloc HO2.out _) ⟨w2.heap.size, 0, none⟩ 1 1 [.string T] rfl rfl (by intro j u hj; match j, hj with | 0, hj => simp at hj; subst hj; simp [Addr.add]) (by intro u hu; simp at hu; subst hu; rfl) (by rw [HLEN.out]; unfold maxLen; omega) (by rw [HLEN.out]; omega) (by simp; omega) ?_))
   intro v' w3 hown' hgrow _
   have HO3 : Hid (OwnT w3 w.heap.size v' ((l.take (k + 1)).map textR)) := Lib.hid (by rw [HSN.out]; exact OwnT.app HT.out hown')
   have HB3 : Hid (Below w.heap.size w w3) := Lib.hid (belowG HB2.out HO2.out hgrow (Nat.le_refl _) hz2)
   clear hown' hgrow
   go_wp2
   go_roundw
   case rel => exact ⟨k + 1, by omega, by go_num, HO3, HB3⟩
   case measure => simp [intOf]; omega
  ·
   obtain rfl : k = n := by omega
   have HE : Hid ((l.take k).map textR = l.map textR) := Lib.hid (by rw [List.take_of_length_le (by rw [HN.out]; omega)])
   have JN := joinM_any sep HSEP.out _ _ (by rw [List.length_map, List.length_take]; omega) (fun p hp => by
    obtain ⟨x, hx, rfl⟩ := List.mem_map.1 hp
    have := textR_len (HS.out x (List.mem_of_mem_take hx)); omega) wr HO.out.holds
   rw [HE.out, HR.out] at JN
   clear hlt
   go_wp2_with (go_at_call 43; (with_reducible refine JN.mono ?_); rintro e w2 ⟨rfl, hb⟩; have HB2 := Lib.hid (HB.out.trans (hb.mono hsz)); clear hb)
   go_ret
   exact ⟨rfl, HB2.out⟩
end
section
open Go.RowKit
structure LaidQ (w : World) : Prop where
 v : LaidV w
 m : ∃ m, w.cell? ⟨1, 0, none⟩ = some (.int .i64 m)
theorem LaidQ.on {w w' : World} (h : LaidQ w) (hb : Below w.heap.size w w') : LaidQ w' := by
 obtain ⟨m, hm⟩ := h.m
 exact ⟨h.v.on hb, m, (hb.cell (World.block_lt_of_cell? w _ hm)).trans hm⟩
abbrev oRel : Obj := .cells #[.string ⟨#[]⟩, .string ⟨#[]⟩, .string ⟨#[]⟩] 46
def readP (s : Bs) : Rl := ((Lib.cut s [32, 40]).1, (Lib.cut (Lib.trimSuffix (Lib.cut s [32, 40]).2.1 [41]) [32]).1, (Lib.cut (Lib.trimSuffix (Lib.cut s [32, 40]).2.1 [41]) [32]).2.1)
theorem cut_lone {sep p : Bs} (h : Lone sep p) : Lib.cut p sep = (p, [], false) := by
 unfold Lib.cut; rw [h, if_neg (by decide)]
theorem cut_apart {sep p : Bs} (h : Apart sep p) (r : Bs) : Lib.cut (p ++ (sep ++ r)) sep = (p, r, true) := by
 unfold Lib.cut
 rw [h r, if_pos (by omega), show (p.length : Int).toNat = p.length by omega, List.take_left, ← List.drop_drop, List.drop_left, List.drop_left]
theorem trim_end (l : Bs) (c : UInt8) : Lib.trimSuffix (l ++ [c]) [c] = l := by
 unfold Lib.trimSuffix Lib.hasSuffix
 rw [if_pos (by rw [List.isSuffixOf_iff_suffix]; exact List.suffix_append _ _)]
 simp
theorem readP_text {x : Rl} (h : rightR x = true) : readP (textR x) = x := by
 obtain ⟨n, o, v⟩ := x
 unfold rightR at h
 simp only [Bool.and_eq_true] at h
 obtain ⟨h1, h2⟩ := h
 have hn := name_32 h1
 unfold readP textR
 simp only []
 by_cases ho : o = []
 ·
  subst ho
  rw [if_pos rfl] at h2 ⊢
  have hv : v = [] := by simpa using h2
  subst hv
  rw [cut_lone (lone_first hn)]
  rfl
 ·
  rw [if_neg ho] at h2 ⊢
  simp only [Bool.and_eq_true, decide_eq_true_eq] at h2
  have e : n ++ 32 :: 40 :: (o ++ 32 :: (v ++ [41])) = n ++ ([32, 40] ++ ((o ++ ([32] ++ v)) ++ [41])) := by simp
  rw [e, cut_apart (apart_first hn)]
  simp only []
  rw [trim_end, cut_apart (apart_first (op_32 h2.1))]
theorem parse_by_readP (s : Bs) : parseR s = if rightR (readP s) = true ∧ textR (readP s) = s then some (readP s) else none := by
 split
 ·
  rename_i g
  have := parse_textR g.1
  rw [g.2] at this; exact this
 ·
  rename_i g
  cases hp : parseR s with
  | none => rfl
  | some y =>
   obtain ⟨h1, h2⟩ := text_parseR hp
   have := readP_text h2
   rw [h1] at this
   exact absurd ⟨by rw [this]; exact h2, by rw [this]; exact h1⟩ g
def parsedQ (o : Option Rl) : Value := match o with
 | some x => .tuple #[relV x, .int .i64 0]
 | none => .tuple #[relV ([], [], []), .int .i64 2]
def ParsePostP (s : Bs) (w : World) (e : Ending) (w' : World) : Prop := e = .returned (parsedQ (parseR s)) ∧ Below w.heap.size w w'
theorem cut_len {s sep : Bs} : (Lib.cut s sep).1.length ≤ s.length ∧ (Lib.cut s sep).2.1.length ≤ s.length := by
 unfold Lib.cut
 split
 ·
  exact ⟨List.length_take_le' _ _, by rw [List.length_drop]; omega⟩
 ·
  exact ⟨Nat.le_refl _, by simp⟩
theorem trim_len (s p : Bs) : (Lib.trimSuffix s p).length ≤ s.length := by
 unfold Lib.trimSuffix
 split
 ·
  exact List.length_take_le' _ _
 ·
  exact Nat.le_refl _
theorem parseP_any (s : ByteArray) (hs : s.size ≤ 4000) (w : World) (hL : LaidQ w) : Calls Tryz.prog 120 #[.string s] w (ParsePostP s.data.toList w) := by
 have HPB := Lib.hid (parse_by_readP s.data.toList)
 obtain ⟨c1, hc1⟩ : ∃ c1, Lib.cut s.data.toList [32, 40] = c1 := ⟨_, rfl⟩
 obtain ⟨n, hn⟩ : ∃ n : ByteArray, (⟨c1.1.toArray⟩ : ByteArray) = n := ⟨_, rfl⟩
 obtain ⟨r, hr⟩ : ∃ r : ByteArray, (⟨c1.2.1.toArray⟩ : ByteArray) = r := ⟨_, rfl⟩
 obtain ⟨t, ht⟩ : ∃ t : ByteArray, (⟨(Lib.trimSuffix c1.2.1 [41]).toArray⟩ : ByteArray) = t := ⟨_, rfl⟩
 obtain ⟨c2, hc2⟩ : ∃ c2, Lib.cut (Lib.trimSuffix c1.2.1 [41]) [32] = c2 := ⟨_, rfl⟩
 obtain ⟨o, ho⟩ : ∃ o : ByteArray, (⟨c2.1.toArray⟩ : ByteArray) = o := ⟨_, rfl⟩
 obtain ⟨v, hv⟩ : ∃ v : ByteArray, (⟨c2.2.1.toArray⟩ : ByteArray) = v := ⟨_, rfl⟩
 have l1 := cut_len (s := s.data.toList) (sep := [32, 40])
 rw [hc1, ← sizeOf] at l1
 have l2 := trim_len c1.2.1 [41]
 have l3 := cut_len (s := Lib.trimSuffix c1.2.1 [41]) (sep := [32])
 rw [hc2] at l3
 have hnL : n.data.toList = c1.1 := by rw [← hn]
 have hoL : o.data.toList = c2.1 := by rw [← ho]
 have hvL : v.data.toList = c2.2.1 := by rw [← hv]
 have hns : n.size ≤ 4000 := by rw [sizeOf, hnL]; omega
 have hos : o.size ≤ 4000 := by rw [sizeOf, hoL]; omega
 have hvs : v.size ≤ 4000 := by rw [sizeOf, hvL]; omega
 have hrs : r.size ≤ 4000 := by rw [sizeOf, ← hr]; show c1.2.1.length ≤ _; omega
 have hts : t.size ≤ 4000 := by rw [sizeOf, ← ht]; show (Lib.trimSuffix c1.2.1 [41]).length ≤ _; omega
 have hread : readP s.data.toList = (n.data.toList, o.data.toList, v.data.toList) := by
  unfold readP; rw [hc1, hc2, hnL, hoL, hvL]
 have HRD := Lib.hid hread
 have CUT1 : ∀ W m, W.cell? ⟨1, 0, none⟩ = some (.int .i64 m) → Calls Tryz.prog 123 #[.string s, .string ⟨#[32, 40]⟩] W fun e w' => e = .returned (.tuple #[.string n, .string r, .bool c1.2.2]) ∧ ∃ q, w' = W.drewN q := fun W m hm => by
  have := Tryz.strings_Cut s ⟨#[32, 40]⟩ m W (by omega) hm
  rw [show (ByteArray.mk #[32, 40]).data.toList = [32, 40] from rfl, hc1, hn, hr] at this
  exact this
 have TS : ∀ W, Calls Tryz.prog 151 #[.string r, .string ⟨#[41]⟩] W fun e w' => e = .returned (.string t) ∧ w' = W := fun W => by
  have := Tryz.strings_TrimSuffix r ⟨#[41]⟩ W (by omega)
  rw [show (ByteArray.mk #[41]).data.toList = [41] from rfl, show r.data.toList = c1.2.1 by rw [← hr], ht] at this
  exact this
 have CUT2 : ∀ W m, W.cell? ⟨1, 0, none⟩ = some (.int .i64 m) → Calls Tryz.prog 123 #[.string t, .string ⟨#[32]⟩] W fun e w' => e = .returned (.tuple #[.string o, .string v, .bool c2.2.2]) ∧ ∃ q, w' = W.drewN q := fun W m hm => by
  have := Tryz.strings_Cut t ⟨#[32]⟩ m W (by omega) hm
  rw [show (ByteArray.mk #[32]).data.toList = [32] from rfl, show t.data.toList = Lib.trimSuffix c1.2.1 [41] by rw [← ht], hc2, ho, hv] at this
  exact this
 have RT := fun W h => rightR_any n o v hns hvs W h
 have TX := fun W => textR_any n o v (by omega) (by omega) (by omega) W
 obtain ⟨rb, hrb⟩ : ∃ rb, rightR (n.data.toList, o.data.toList, v.data.toList) = rb := ⟨_, rfl⟩
 obtain ⟨T, hT⟩ : ∃ T : ByteArray, (⟨(textR (n.data.toList, o.data.toList, v.data.toList)).toArray⟩ : ByteArray) = T := ⟨_, rfl⟩
 have hTL : textR (n.data.toList, o.data.toList, v.data.toList) = T.data.toList := by rw [← hT]
 rw [hrb] at RT
 rw [hT] at TX
 have hP : parseR s.data.toList = if rb = true ∧ T.data.toList = s.data.toList then some (n.data.toList, o.data.toList, v.data.toList) else none := by rw [HPB.out, HRD.out, hrb, hTL]
 have HYES : Hid (∀ w', parseR s.data.toList = some (n.data.toList, o.data.toList, v.data.toList) → Below w.heap.size w w' → ParsePostP s.data.toList w (.returned (.tuple #[.agg #[.string n, .string o, .string v], .int .i64 0])) w') := Lib.hid (fun w' h hb => ⟨by rw [h]; rfl, hb⟩)
 have HNO : Hid (∀ w', parseR s.data.toList = none → Below w.heap.size w w' → ParsePostP s.data.toList w (.returned (.tuple #[.agg #[.string ⟨#[]⟩, .string ⟨#[]⟩, .string ⟨#[]⟩], .int .i64 2])) w') := Lib.hid (fun w' h hb => ⟨by rw [h]; rfl, hb⟩)
 have C1 : ∀ W, LaidQ W → Calls Tryz.prog 123 #[.string s, .string ⟨#[32, 40]⟩] W fun e w' => e = .returned (.tuple #[.string n, .string r, .bool c1.2.2]) ∧ ∃ q, w' = W.drewN q := fun W h => by
  obtain ⟨m, hm⟩ := h.m; exact CUT1 W m hm
 have C2 : ∀ W, LaidQ W → Calls Tryz.prog 123 #[.string t, .string ⟨#[32]⟩] W fun e w' => e = .returned (.tuple #[.string o, .string v, .bool c2.2.2]) ∧ ∃ q, w' = W.drewN q := fun W h => by
  obtain ⟨m, hm⟩ := h.m; exact CUT2 W m hm
 have hb0 := (Below.refl w.heap.size w).alloc (Nat.le_refl _) oRel
 have HB0 := Lib.hid hb0
 have HL0 := Lib.hid (hL.on hb0)
 have HR0 := Lib.hid (BoxQ.new w ⟨#[]⟩ ⟨#[]⟩ ⟨#[]⟩ 46)
 generalize c1.2.2 = f1 at *
 generalize c2.2.2 = f2 at *
 clear CUT1 CUT2 hc1 hn hr ht hc2 ho hv l1 l2 l3 hnL hoL hvL hread hb0 hL HPB HRD hrb hT hTL hns hos hvs hrs hts hs
 cases rb
 ·
  have G := Lib.hid (fun w' => HNO.out w' (by rw [hP, if_neg (by simp)]))
  clear HYES HNO hP TX
  go_enter Tryz.func120, Tryz.ntmps120
  go_wp2_with (first
  | (go_at_call 123; (with_reducible refine (C1 _ HL0.out).mono ?_); rintro e w1 ⟨rfl, q1, hw1⟩; have hb1 := belowQ (Below.refl (w.alloc oRel).heap.size (w.alloc oRel)) q1; rw [← hw1] at hb1; have HR1 := Lib.hid (HR0.out.on hb1); have HL1 := Lib.hid (HL0.out.on hb1); have HB1 := Lib.hid (HB0.out.trans (hb1.mono HB0.out.size)); clear hw1 hb1 C1)
  | (go_at_call 151; (with_reducible refine (TS _).mono ?_); rintro e w2 ⟨rfl, rfl⟩; clear TS)
  | (go_at_call 123; (with_reducible refine (C2 _ HL1.out).mono ?_); rintro e w3 ⟨rfl, q2, hw3⟩; have hb3 := belowQ (Below.refl w2.heap.size w2) q2; rw [← hw3] at hb3; have hb4 := hb3.alloc hb3.size (.cells #[.string n, .string o, .string v] 46); have HR3 := Lib.hid (HR1.out.on hb4); have HL3 := Lib.hid (HL1.out.on hb4); have HB3 := Lib.hid (HB1.out.trans (hb4.mono HB1.out.size)); have HX3 := Lib.hid (BoxQ.new w3 n o v 46); clear hw3 hb3 hb4 C2)
  | (go_at_call 127; (with_reducible refine (RT _ HL3.out.v).mono ?_); rintro e w4 ⟨rfl, hb⟩; obtain ⟨r0, r1, r2, rf⟩ := HR3.out.on hb; have HR4 := Lib.hid (HR3.out.on hb); obtain ⟨b0, b1, b2, bf⟩ := HX3.out.on hb; have HX4 := Lib.hid (HX3.out.on hb); have HB4 := Lib.hid (HB3.out.trans (hb.mono HB3.out.size)); clear hb RT))
  obtain ⟨k0, k1, k2⟩ := BoxQ.put ⟨r0, r1, r2, rf⟩ ⟨#[]⟩ ⟨#[]⟩ ⟨#[]⟩
  exact bodyPost_ret (v := .tuple #[.agg #[.string ⟨#[]⟩, .string ⟨#[]⟩, .string ⟨#[]⟩], .int .i64 2]) (by simp [results, Tryz.results120, go_sem, k0, k1, k2]) rfl (G.out _ (putQ3_below HB4.out (Nat.le_refl _) _ _ _))
 have hq := eqT T s
 by_cases hts : T.data.toList = s.data.toList
 ·
  rw [decide_eq_true hts] at hq
  have G := Lib.hid (fun w' => HYES.out w' (by rw [hP, if_pos ⟨rfl, hts⟩]))
  clear HYES HNO hP hts
  go_enter Tryz.func120, Tryz.ntmps120
  go_wp2_with (first
  | (go_at_call 123; (with_reducible refine (C1 _ HL0.out).mono ?_); rintro e w1 ⟨rfl, q1, hw1⟩; have hb1 := belowQ (Below.refl (w.alloc oRel).heap.size (w.alloc oRel)) q1; rw [← hw1] at hb1; have HR1 := Lib.hid (HR0.out.on hb1); have HL1 := Lib.hid (HL0.out.on hb1); have HB1 := Lib.hid (HB0.out.trans (hb1.mono HB0.out.size)); clear hw1 hb1 C1)
  | (go_at_call 151; (with_reducible refine (TS _).mono ?_); rintro e w2 ⟨rfl, rfl⟩; clear TS)
  | (go_at_call 123; (with_reducible refine (C2 _ HL1.out).mono ?_); rintro e w3 ⟨rfl, q2, hw3⟩; have hb3 := belowQ (Below.refl w2.heap.size w2) q2; rw [← hw3] at hb3; have hb4 := hb3.alloc hb3.size (.cells #[.string n, .string o, .string v] 46); have HR3 := Lib.hid (HR1.out.on hb4); have HL3 := Lib.hid (HL1.out.on hb4); have HB3 := Lib.hid (HB1.out.trans (hb4.mono HB1.out.size)); have HX3 := Lib.hid (BoxQ.new w3 n o v 46); clear hw3 hb3 hb4 C2)
  | (go_at_call 127; (with_reducible refine (RT _ HL3.out.v).mono ?_); rintro e w4 ⟨rfl, hb⟩; obtain ⟨r0, r1, r2, rf⟩ := HR3.out.on hb; have HR4 := Lib.hid (HR3.out.on hb); obtain ⟨b0, b1, b2, bf⟩ := HX3.out.on hb; have HX4 := Lib.hid (HX3.out.on hb); have HB4 := Lib.hid (HB3.out.trans (hb.mono HB3.out.size)); clear hb RT)
  | (go_at_call 88; (with_reducible refine (TX _).mono ?_); rintro e w5 ⟨rfl, hb⟩; obtain ⟨s0, s1, s2, sf⟩ := HR4.out.on hb; obtain ⟨d0, d1, d2, df⟩ := HX4.out.on hb; have HR5 := Lib.hid (HR4.out.on hb); have HB5 := Lib.hid (HB4.out.trans (hb.mono HB4.out.size)); clear hb TX))
  obtain ⟨k0, k1, k2⟩ := BoxQ.put ⟨s0, s1, s2, sf⟩ n o v
  exact bodyPost_ret (v := .tuple #[.agg #[.string n, .string o, .string v], .int .i64 0]) (by simp [results, Tryz.results120, go_sem, k0, k1, k2]) rfl (G.out _ (putQ3_below HB5.out (Nat.le_refl _) _ _ _))
 ·
  rw [decide_eq_false hts] at hq
  have G := Lib.hid (fun w' => HNO.out w' (by rw [hP, if_neg (fun g => hts g.2)]))
  clear HYES HNO hP hts
  go_enter Tryz.func120, Tryz.ntmps120
  go_wp2_with (first
  | (go_at_call 123; (with_reducible refine (C1 _ HL0.out).mono ?_); rintro e w1 ⟨rfl, q1, hw1⟩; have hb1 := belowQ (Below.refl (w.alloc oRel).heap.size (w.alloc oRel)) q1; rw [← hw1] at hb1; have HR1 := Lib.hid (HR0.out.on hb1); have HL1 := Lib.hid (HL0.out.on hb1); have HB1 := Lib.hid (HB0.out.trans (hb1.mono HB0.out.size)); clear hw1 hb1 C1)
  | (go_at_call 151; (with_reducible refine (TS _).mono ?_); rintro e w2 ⟨rfl, rfl⟩; clear TS)
  | (go_at_call 123; (with_reducible refine (C2 _ HL1.out).mono ?_); rintro e w3 ⟨rfl, q2, hw3⟩; have hb3 := belowQ (Below.refl w2.heap.size w2) q2; rw [← hw3] at hb3; have hb4 := hb3.alloc hb3.size (.cells #[.string n, .string o, .string v] 46); have HR3 := Lib.hid (HR1.out.on hb4); have HL3 := Lib.hid (HL1.out.on hb4); have HB3 := Lib.hid (HB1.out.trans (hb4.mono HB1.out.size)); have HX3 := Lib.hid (BoxQ.new w3 n o v 46); clear hw3 hb3 hb4 C2)
  | (go_at_call 127; (with_reducible refine (RT _ HL3.out.v).mono ?_); rintro e w4 ⟨rfl, hb⟩; obtain ⟨r0, r1, r2, rf⟩ := HR3.out.on hb; have HR4 := Lib.hid (HR3.out.on hb); obtain ⟨b0, b1, b2, bf⟩ := HX3.out.on hb; have HX4 := Lib.hid (HX3.out.on hb); have HB4 := Lib.hid (HB3.out.trans (hb.mono HB3.out.size)); clear hb RT)
  | (go_at_call 88; (with_reducible refine (TX _).mono ?_); rintro e w5 ⟨rfl, hb⟩; obtain ⟨s0, s1, s2, sf⟩ := HR4.out.on hb; obtain ⟨d0, d1, d2, df⟩ := HX4.out.on hb; have HR5 := Lib.hid (HR4.out.on hb); have HB5 := Lib.hid (HB4.out.trans (hb.mono HB4.out.size)); clear hb TX))
  obtain ⟨k0, k1, k2⟩ := BoxQ.put ⟨s0, s1, s2, sf⟩ ⟨#[]⟩ ⟨#[]⟩ ⟨#[]⟩
  exact bodyPost_ret (v := .tuple #[.agg #[.string ⟨#[]⟩, .string ⟨#[]⟩, .string ⟨#[]⟩], .int .i64 2]) (by simp [results, Tryz.results120, go_sem, k0, k1, k2]) rfl (G.out _ (putQ3_below HB5.out (Nat.le_refl _) _ _ _))
end
end Go.Proofs.YtkbkaeefdhkgdaaGreatDoor
