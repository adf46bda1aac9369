import Derived.Test.YtkbkaeefdhkgdaaGreatDoorGQPParse
import Derived.Test.YtkbkaeefdhkgdaaGreatDoorGUKeyT
set_option maxRecDepth 100000
set_option maxHeartbeats 32000000
namespace Go.Proofs.YtkbkaeefdhkgdaaGreatDoor
section
open Go.RowKit
theorem groupText_any (v : Value) (g : List Rl) (hl : g.length ≤ 90000) (hs : SmallQ g) (w : World) (h : HoldQ w v g) : Calls Tryz.prog 86 #[v] w fun e w' => e = .returned (.string (bsT (textG g))) ∧ Below w.heap.size w w' := by
 have J := joinedR_any ⟨#[32, 124, 32]⟩ (by decide) v g hl hs w h
 obtain ⟨R, hR⟩ : ∃ R, bsT (Lib.join (g.map textR) (ByteArray.mk #[32, 124, 32]).data.toList) = R := ⟨_, rfl⟩
 have HR : Hid (R = bsT (textG g)) := Lib.hid hR.symm
 rw [hR] at J
 obtain ⟨a, c, b, o, rfl, -⟩ := h.parts
 generalize g.length = n at *
 clear hR h hs hl
 go_enter Tryz.func86, Tryz.ntmps86
 go_wp2_with (go_at_call 87; (with_reducible refine J.mono ?_); rintro e w1 ⟨rfl, hb⟩; have HB := Lib.hid hb; clear hb)
 go_ret
 exact ⟨by rw [HR.out]; rfl, HB.out⟩
theorem fullQ_any (a : Option Addr) (n c : Nat) (hn : n ≤ 90000) (w : World) : Calls Tryz.prog 83 #[.slice a n c] w fun e w' => e = .returned (.bool (decide (64 < n))) ∧ Below w.heap.size w w' := by
 have e : decide (64 < n) = decide (64 < (n : Int)) := by congr 1; apply propext; omega
 rw [e]
 go_enter Tryz.func83, Tryz.ntmps83
 go_wp2
 go_ret
 exact ⟨rfl, Below.refl _ _⟩
def listE (l : List Rl) : Bs × Int := if 64 < l.length then ([], 22) else if l.all rightR = true then (textQ l, 0) else ([], 1)
def TwoP (x : Bs × Int) (w : World) (e : Ending) (w' : World) : Prop := e = .returned (.tuple #[.string (bsT x.1), .int .i64 x.2]) ∧ Below w.heap.size w w'
end
section
open Go.RowKit
def SmallG (l : List Gv) : Prop := ∀ x ∈ l, SmallQ x.1 ∧ x.1.length ≤ 500
def gtx (x : Gv) : Bs := textG x.1
theorem joinedG_any (sep : ByteArray) (hsep : sep.size ≤ 10) (v : Value) (l : List Gv) (hl : l.length ≤ 90000) (hs : SmallG l) (w : World) (h : HoldGs w v l) :
  Calls Tryz.prog 85 #[v, .string sep, .func (.func 86) #[] #[]] w fun e w' => e = .returned (.string (bsT (Lib.join (l.map gtx) sep.data.toList))) ∧ Below w.heap.size w w' := by
 obtain ⟨a, c, b, o, rfl, hc, ha, hcell⟩ := h.parts
 obtain ⟨i0, hi, hz0, hz1, hz2'⟩ := info_parts infoT
 have HC := Lib.hid hcell
 have HG := Lib.hid h
 have HS := Lib.hid hs
 have HSEP := Lib.hid hsep
 have EN : ∀ args w, (callFunc 86 args).run Tryz.prog w = .ok (.enter 86 args) w := enters_of Tryz.func86 (by kernel_rfl) rfl
 obtain ⟨R, hR⟩ : ∃ R, bsT (Lib.join (l.map gtx) sep.data.toList) = R := ⟨_, rfl⟩
 rw [hR]
 have HR := Lib.hid hR
 obtain ⟨n, hN⟩ : ∃ n, l.length = n := ⟨_, rfl⟩
 rw [hN] at hc ha hl ⊢
 have HN := Lib.hid hN
 clear hcell hN h hs hsep hR
 go_enter Tryz.func85, Tryz.ntmps85
 go_wp2
 go_loopw [7, 12] (fun u i wr => ∃ k : Nat, k ≤ n ∧ i = .int .i64 k ∧ Hid (OwnT wr w.heap.size u ((l.take k).map gtx)) ∧ Hid (Below w.heap.size w wr)) (fun _ i _ => n - (intOf i).toNat)
 case atStart => exact ⟨0, by omega, rfl, Lib.hid (OwnT.nil _ _), Lib.hid (Below.refl _ _)⟩
 case round =>
  obtain ⟨k, hk, rfl, HO, HB⟩ := hrel
  have hsz := HB.out.size
  by_cases hlt : k < n
  ·
   obtain ⟨rfl, hbw⟩ := ha (by omega)
   obtain ⟨⟨g0, sv⟩, hx⟩ : ∃ x, l[k]? = some x := ⟨_, List.getElem?_eq_getElem (by rw [HN.out]; exact hlt)⟩
   have hgx := HG.out.2 _ (List.mem_of_getElem? hx)
   have hsm := HS.out _ (List.mem_of_getElem? hx)
   have c0 := HC.out k _ hx
   dsimp only at c0 hsm hgx
   rw [← HB.out.cell (p := ⟨b, o + k, none⟩) hbw] at c0
   have TX := fun W (hW : Below wr.heap.size wr W) => groupText_any sv g0 (by omega) hsm.1 W (HoldV.on (HoldV.on hgx HB.out) hW)
   obtain ⟨sa, sc, -, -, hsv, -⟩ := hgx.parts
   subst hsv
   clear hgx
   have HSN := Lib.hid (map_snocQ gtx hx)
   obtain ⟨T, hT⟩ : ∃ T : ByteArray, bsT (textG g0) = T := ⟨_, rfl⟩
   have HT : Hid (T.data.toList = textG g0) := Lib.hid (by rw [← hT])
   rw [hT] at TX
   have hlen : ((l.take k).map gtx).length = k := by rw [List.length_map, List.length_take, HN.out]; omega
   obtain ⟨L, hL⟩ : ∃ L, (l.take k).map gtx = L := ⟨_, rfl⟩
   rw [hL] at HO hlen HSN
   have HLEN := Lib.hid hlen
   generalize g0.length = gn at *
   clear hx hT hlen hsm hL
   go_wp2_with (first
    | (go_at_fn 86; (with_reducible refine (TX _ (Below.refl _ _)).mono ?_); rintro e w2 ⟨rfl, hb⟩; have HB2 := Lib.hid (HB.out.trans (hb.mono hsz)); have HO2 : Hid (OwnT w2 w.heap.size u7 L) := Lib.hid (World.ownsRow.kept HO.out (grownV hb) (by cases u7.ownBlock <;> simp)); have hz2 := HB2.out.size; clear hb TX)
    | (at_builtin; refine wpList_append_own _ rfl _ _ 40 rfl w.heap.size 9 i0 _ 1 16 Tryz.underlying40 hi hz0 hz1 hz2' rfl (by decide) _ _ _ rfl (World.ownsRow.alloc HO2.out _) ⟨w2.heap.size, 0, none⟩ 1 1 [.string T] rfl rfl (by intro j u hj; match j, hj with | 0, hj => simp at hj; subst hj; simp [Addr.add]) (by intro u hu; simp at hu; subst hu; rfl) (by rw [HLEN.out]; unfold maxLen; omega) (by rw [HLEN.out]; omega) (by simp; omega) ?_))
   intro v' w3 hown' hgrow _
   have HO3 : Hid (OwnT w3 w.heap.size v' ((l.take (k + 1)).map gtx)) := Lib.hid (by rw [HSN.out]; exact OwnT.app HT.out hown')
   have HB3 : Hid (Below w.heap.size w w3) := Lib.hid (belowG HB2.out HO2.out hgrow (Nat.le_refl _) hz2)
   clear hown' hgrow
   go_wp2
   go_roundw
   case rel => exact ⟨k + 1, by omega, by go_num, HO3, HB3⟩
   case measure => simp [intOf]; omega
  ·
   obtain rfl : k = n := by omega
   have HE : Hid ((l.take k).map gtx = l.map gtx) := Lib.hid (by rw [List.take_of_length_le (by rw [HN.out]; omega)])
   have JN := joinM_any sep HSEP.out _ _ (by rw [List.length_map, List.length_take]; omega) (fun p hp => by
    obtain ⟨x, hx, rfl⟩ := List.mem_map.1 hp
    have hh := HS.out x (List.mem_of_mem_take hx); have := textG_len hh.1 hh.2; unfold gtx; omega) wr HO.out.holds
   rw [HE.out, HR.out] at JN
   clear hlt
   go_wp2_with (go_at_call 43; (with_reducible refine JN.mono ?_); rintro e w2 ⟨rfl, hb⟩; have HB2 := Lib.hid (HB.out.trans (hb.mono hsz)); clear hb)
   go_ret
   exact ⟨rfl, HB2.out⟩
theorem fullG_any (a : Option Addr) (n c : Nat) (hn : n ≤ 90000) (w : World) : Calls Tryz.prog 81 #[.slice a n c] w fun e w' => e = .returned (.bool (decide (64 < n))) ∧ Below w.heap.size w w' := by
 have e : decide (64 < n) = decide (64 < (n : Int)) := by congr 1; apply propext; omega
 rw [e]
 go_enter Tryz.func81, Tryz.ntmps81
 go_wp2
 go_ret
 exact ⟨rfl, Below.refl _ _⟩
def longG (x : List Rl) : Bool := decide (64 < x.length)
def badG (x : List Rl) : Bool := decide (x.length = 0) || !x.all rightR
def allE (l : List (List Rl)) : Bs × Int := if decide (64 < l.length) || l.any longG then ([], 22) else if l.any badG then ([], 1) else (textA l, 0)
abbrev fsts (l : List Gv) : List (List Rl) := l.map (·.1)
theorem bad_hit {l : List Gv} {k : Nat} {x : Gv} (h : l[k]? = some x) (hb : badG x.1 = true) : (fsts l).any badG = true := List.any_eq_true.2 ⟨x.1, List.mem_map_of_mem (List.mem_of_getElem? h), hb⟩
theorem bad_miss {l : List Gv} (h : ∀ (j : Nat) y, l[j]? = some y → badG y.1 = false) : (fsts l).any badG = false := by
 rw [List.any_eq_false]
 intro g hg
 obtain ⟨x, hx, rfl⟩ := List.mem_map.1 hg
 obtain ⟨j, hj⟩ := List.mem_iff_getElem?.1 hx
 rw [h j x hj]; simp
end
section
open Go.RowKit
theorem splitN_any (s sep : ByteArray) (hs : s.size ≤ 100000) (h1 : 1 ≤ sep.size) (w : World) (h : LaidQ w) : Calls Tryz.prog 174 #[.string s, .string sep, .int .i64 65] w fun e w' => (∃ a c, e = .returned (.slice a (Lib.splitN s.data.toList sep.data.toList 65).length c) ∧ HoldT w' (.slice a (Lib.splitN s.data.toList sep.data.toList 65).length c) (Lib.splitN s.data.toList sep.data.toList 65)) ∧ Below w.heap.size w w' := by
 obtain ⟨m, hm⟩ := h.m
 have := Tryz.strings_SplitN s sep 65 m w (by omega) hm h1 (by decide) (by decide)
 refine Calls.mono this fun e w' hp => ?_
 obtain ⟨rfl, rfl⟩ := hp
 have hd := Lib.splitB_data sep 0 (min 65 (s.size + 1) - 1) s
 have hd' : (Lib.splitB sep 0 (min 65 (s.size + 1) - 1) s).map (·.data.toList) = Lib.splitN s.data.toList sep.data.toList 65 := by
  rw [hd]; unfold Lib.splitN; rw [← sizeOf]
 have hlen := congrArg List.length hd'
 rw [List.length_map] at hlen
 have hle := Lib.splitB_length_le sep 0 (min 65 (s.size + 1) - 1) s
 obtain ⟨D, hD⟩ : ∃ D, Lib.splitB sep 0 (min 65 (s.size + 1) - 1) s = D := ⟨_, rfl⟩
 rw [hD] at hd' hlen hle ⊢
 rw [← hlen]
 refine ⟨⟨_, _, rfl, ?_⟩, (Below.refl _ _).alloc (Nat.le_refl _) _⟩
 rw [← hd']
 refine ⟨_, _, w.heap.size, 0, by rw [List.length_map], by rw [List.length_map]; omega, fun _ => ⟨rfl, by simp⟩, fun j l hj => ?_⟩
 rw [List.getElem?_map] at hj
 cases hg : D[j]? with
 | none => rw [hg] at hj; cases hj
 | some x =>
  rw [hg] at hj
  obtain rfl := Option.some.inj hj
  have hjl := (List.getElem?_eq_some_iff.1 hg).1
  rw [Nat.zero_add, cellRow _ w.heap.size j _ _ _ (heap_alloc_new w _), Lib.cellsOf, List.getElem?_toArray, List.getElem?_append_left (by rw [List.length_map]; exact hjl), List.getElem?_map, hg]
  rfl
def restM {α : Type} (parse : Bs → Option α) (xs : List α) (ps : List Bs) : Option (List α) := (ps.mapM parse).map (xs ++ ·)
theorem restM_nil {α : Type} (parse : Bs → Option α) (xs : List α) : restM parse xs [] = some xs := by simp [restM]
theorem restM_bad {α : Type} {parse : Bs → Option α} {xs : List α} {p : Bs} {ps : List Bs} (h : parse p = none) : restM parse xs (p :: ps) = none := by
 unfold restM; rw [List.mapM_cons, h]; rfl
theorem restM_step {α : Type} {parse : Bs → Option α} {xs : List α} {p : Bs} {ps : List Bs} {x : α} (h : parse p = some x) : restM parse xs (p :: ps) = restM parse (xs ++ [x]) ps := by
 unfold restM; rw [List.mapM_cons, h]
 cases ps.mapM parse with
 | none => rfl
 | some ys => simp
theorem drop_atQ {α : Type} {l : List α} {i : Nat} {x : α} (h : l[i]? = some x) : l.drop i = x :: l.drop (i + 1) := by
 obtain ⟨hi, e⟩ := List.getElem?_eq_some_iff.1 h
 rw [List.drop_eq_getElem_cons hi, e]
theorem fullS_any (a : Option Addr) (n c : Nat) (hn : n ≤ 90000) (w : World) : Calls Tryz.prog 175 #[.slice a n c] w fun e w' => e = .returned (.bool (decide (64 < n))) ∧ Below w.heap.size w w' := by
 have e : decide (64 < n) = decide (64 < (n : Int)) := by congr 1; apply propext; omega
 rw [e]
 go_enter Tryz.func175, Tryz.ntmps175
 go_wp2
 go_ret
 exact ⟨rfl, Below.refl _ _⟩
def CutPost (o : Option (List Rl)) (w : World) (e : Ending) (w' : World) : Prop := (match o with
 | some l => ∃ v, e = .returned (.tuple #[v, .int .i64 0]) ∧ OwnQ w' w.heap.size v l
 | none => e = .returned (.tuple #[.slice none 0 0, .int .i64 2])) ∧ Below w.heap.size w w'
theorem cutR_any (s sep : ByteArray) (hs : s.size ≤ 100000) (h1 : 1 ≤ sep.size) (hp : ∀ p ∈ Lib.splitN s.data.toList sep.data.toList 65, p.length ≤ 4000) (w : World) (hL : LaidQ w) :
  Calls Tryz.prog 150 #[.string s, .string sep, .func (.func 120) #[] #[]] w (CutPost (cutP parseR sep.data.toList s.data.toList) w) := by
 obtain ⟨i0, hi, hz0, hz1, hz2'⟩ := info_parts infoQ
 have EN : ∀ args w, (callFunc 120 args).run Tryz.prog w = .ok (.enter 120 args) w := enters_of Tryz.func120 (by kernel_rfl) rfl
 have SP := splitN_any s sep hs h1 w hL
 have hle : (Lib.splitN s.data.toList sep.data.toList 65).length ≤ 65 := by
  unfold Lib.splitN
  have := splitK_len sep.data.toList (min 65 (s.data.toList.length + 1) - 1) s.data.toList
  omega
 obtain ⟨ps, hps⟩ : ∃ ps, Lib.splitN s.data.toList sep.data.toList 65 = ps := ⟨_, rfl⟩
 have hcp : cutP parseR sep.data.toList s.data.toList = if 64 < ps.length then none else ps.mapM parseR := by unfold cutP; rw [hps]
 rw [hps] at SP hle hp
 rw [hcp]
 obtain ⟨m, hm⟩ : ∃ m, ps.length = m := ⟨_, rfl⟩
 rw [hm] at SP hle ⊢
 have HPL := Lib.hid hp
 have HM := Lib.hid hm
 have HL := Lib.hid hL
 have FU := fun a c W => fullS_any a m c (by omega) W
 clear hcp hps hp hm hL hs h1
 by_cases h64 : 64 < m
 ·
  rw [if_pos h64]
  rw [decide_eq_true h64] at FU
  clear h64
  go_enter Tryz.func150, Tryz.ntmps150
  go_wp2_with (first
   | (go_at_call 174; (with_reducible refine SP.mono ?_); rintro e w1 ⟨⟨a, c, rfl, -⟩, hb⟩; have HB := Lib.hid hb; clear hb)
   | (go_at_call 175; (with_reducible refine (FU _ _ _).mono ?_); rintro e w2 ⟨rfl, hb⟩; have HB2 := Lib.hid (HB.out.trans (hb.mono HB.out.size)); clear hb))
  go_ret2
  exact ⟨rfl, HB2.out⟩
 rw [if_neg h64]
 rw [decide_eq_false h64] at FU
 obtain ⟨R, hR⟩ : ∃ R, ps.mapM parseR = R := ⟨_, rfl⟩
 have HR0 : Hid (restM parseR [] (ps.drop 0) = R) := Lib.hid (by unfold restM; rw [List.drop_zero, hR]; cases R <;> simp)
 rw [hR]
 have HYES : Hid (∀ l v w', R = some l → OwnQ w' w.heap.size v l → Below w.heap.size w w' → CutPost R w (.returned (.tuple #[v, .int .i64 0])) w') := Lib.hid (fun l v w' h1 h2 h3 => by unfold CutPost; rw [h1]; exact ⟨⟨v, rfl, h2⟩, h3⟩)
 have HNO : Hid (R = none → ∀ w', Below w.heap.size w w' → CutPost R w (.returned (.tuple #[.slice none 0 0, .int .i64 2])) w') := Lib.hid (fun h1 w' h3 => by unfold CutPost; rw [h1]; exact ⟨rfl, h3⟩)
 clear hR h64
 go_enter Tryz.func150, Tryz.ntmps150
 go_wp2_with (first
  | (go_at_call 174; (with_reducible refine SP.mono ?_); rintro e w1 ⟨⟨a, c, rfl, hh⟩, hb⟩; have HH := Lib.hid hh; have HB := Lib.hid hb; clear hb hh)
  | (go_at_call 175; (with_reducible refine (FU _ _ _).mono ?_); rintro e w2 ⟨rfl, hb⟩; have HB2 := Lib.hid (HB.out.trans (hb.mono HB.out.size)); have HH2 := Lib.hid (HH.out.on hb); clear hb))
 clear SP FU
 obtain ⟨a', c', b, o, e, -, ha, hcell⟩ := HH2.out
 rw [HM.out] at e ha
 simp only [Value.slice.injEq] at e
 obtain ⟨rfl, -, rfl⟩ := e
 have HC := Lib.hid hcell
 have HL2 := Lib.hid (HL.out.on HB2.out)
 clear hcell HH HH2 HB
 have hsz2 := HB2.out.size
 go_loopw [9, 21] (fun u i wr => ∃ (k : Nat) (xs : List Rl), k ≤ m ∧ i = .int .i64 k ∧ Hid (xs.length = k) ∧ Hid (restM parseR xs (ps.drop k) = R) ∧ Hid (OwnQ wr w2.heap.size u xs) ∧ Hid (Below w2.heap.size w2 wr)) (fun _ i _ => m - (intOf i).toNat)
 case atStart => exact ⟨0, [], by omega, rfl, Lib.hid rfl, HR0, Lib.hid (OwnV.nil _ _ _ _), Lib.hid (Below.refl _ _)⟩
 case round =>
  clear HR0
  obtain ⟨k, xs, hk, rfl, HXL, HR, HO, HBX⟩ := hrel
  have HB := Lib.hid (HB2.out.trans (HBX.out.mono hsz2))
  have hsz := HB.out.size
  by_cases hlt : k < m
  ·
   obtain ⟨rfl, hbw⟩ := ha (by omega)
   obtain ⟨p, hpk⟩ : ∃ p, ps[k]? = some p := ⟨_, List.getElem?_eq_getElem (by rw [HM.out]; exact hlt)⟩
   have c0 := HC.out k p hpk
   rw [← HBX.out.cell (p := ⟨b, o + k, none⟩) hbw] at c0
   have hpl := HPL.out p (List.mem_of_getElem? hpk)
   have PA := fun W (hb : Below wr.heap.size wr W) => parseP_any ⟨p.toArray⟩ (by rw [sizeOf, bytesOf]; exact hpl) W ((HL2.out.on HBX.out).on hb)
   unfold ParsePostP at PA
   rw [bytesOf] at PA
   have hdr := drop_atQ hpk
   cases hq : parseR p with
   | none =>
    have G := Lib.hid (HNO.out (by have := HR.out; rw [hdr, restM_bad hq] at this; exact this.symm))
    rw [hq] at PA
    unfold parsedQ relV at PA
    dsimp only at PA
    generalize (⟨p.toArray⟩ : ByteArray) = P at *
    clear hpk hpl hdr hq HR HO HYES HNO hi hz0 hz1 hz2'
    go_wp2_with (go_at_fn 120; (with_reducible refine (PA _ (Below.refl _ _)).mono ?_); rintro e w4 ⟨rfl, hb⟩; have HB4 := Lib.hid (HB.out.trans (hb.mono hsz)); clear hb PA)
    go_ret2
    exact G.out _ (HB4.out.alloc HB4.out.size _)
   | some x =>
    obtain ⟨x0, x1, x2⟩ := x
    have HR2 : Hid (restM parseR (xs ++ [(x0, x1, x2)]) (ps.drop (k + 1)) = R) := Lib.hid (by have := HR.out; rw [hdr, restM_step hq] at this; exact this)
    rw [hq] at PA
    unfold parsedQ relV at PA
    dsimp only at PA
    have HXX : Hid ((⟨x0.toArray⟩ : ByteArray).data.toList = x0 ∧ (⟨x1.toArray⟩ : ByteArray).data.toList = x1 ∧ (⟨x2.toArray⟩ : ByteArray).data.toList = x2) := Lib.hid ⟨by simp, by simp, by simp⟩
    have hxl : (xs ++ [(x0, x1, x2)]).length = k + 1 := by rw [List.length_append, HXL.out]; rfl
    have HXL2 := Lib.hid hxl
    generalize (⟨p.toArray⟩ : ByteArray) = P at *
    generalize (⟨x0.toArray⟩ : ByteArray) = X0 at *
    generalize (⟨x1.toArray⟩ : ByteArray) = X1 at *
    generalize (⟨x2.toArray⟩ : ByteArray) = X2 at *
    clear hpk hpl hdr hq HR HYES HNO hxl
    go_wp2_with (first
     | (go_at_fn 120; (with_reducible refine (PA _ (Below.refl _ _)).mono ?_); rintro e w4 ⟨rfl, hb⟩; have HB4 := Lib.hid (HB.out.trans (hb.mono hsz)); have HBX4 := Lib.hid (HBX.out.trans (hb.mono HBX.out.size)); have HO4 := Lib.hid (OwnV.on HO.out hb); have hz4 := HB4.out.size; clear hb PA HO)
     | (at_builtin; refine wpList_append_own _ rfl _ _ 39 rfl w2.heap.size 46 i0 _ 3 48 Tryz.underlying39 hi hz0 hz1 hz2' rfl (by decide) _ _ _ rfl (World.ownsRow.alloc (World.ownsRow.alloc HO4.out.2 _) _) ⟨w4.heap.size + 1, 0, none⟩ 1 1 [.string X0, .string X1, .string X2] rfl rfl ?c1 ?c2 ?c3 ?c4 ?c5 ?_))
    case c1 =>
     intro j u hj
     match j, hj with
     | 0, hj => simp at hj; subst hj; simp [Addr.add]
     | 1, hj => simp at hj; subst hj; simp [Addr.add]
     | 2, hj => simp at hj; subst hj; simp [Addr.add]
    case c2 => intro u hu; simp at hu; rcases hu with rfl | rfl | rfl <;> rfl
    case c3 => rw [List.length_map, HXL.out]; unfold maxLen; omega
    case c4 => rw [List.length_map, HXL.out]; omega
    case c5 => have := HBX4.out.size; simp; omega
    intro v' w5 hown' hgrow _
    have hO := HO4.out.on ((Below.refl w4.heap.size w4).alloc (Nat.le_refl _) (.cells #[.string X0, .string X1, .string X2] 46))
    have HO5 : Hid (OwnQ w5 w2.heap.size v' (xs ++ [(x0, x1, x2)])) := Lib.hid (OwnQ.app (x := (x0, x1, x2)) HXX.out.1 HXX.out.2.1 HXX.out.2.2 (by simpa using hown'))
    have HB5 : Hid (Below w2.heap.size w2 w5) := Lib.hid (OwnV.below (HBX4.out.alloc HBX4.out.size _) hO hgrow (Nat.le_refl _) (by have := HBX4.out.size; simp; omega))
    clear hown' hgrow hO
    go_wp2
    go_roundw
    case rel => exact ⟨k + 1, _, by omega, by go_num, HXL2, HR2, HO5, HB5⟩
    case measure => simp [intOf]; omega
  ·
   obtain rfl : k = m := by omega
   have HE : Hid (R = some xs) := Lib.hid (by have := HR.out; rw [List.drop_of_length_le (by rw [HM.out]; omega), restM_nil] at this; exact this.symm)
   clear hlt HR HNO
   go_wp2
   go_ret2
   exact HYES.out _ _ _ HE.out (OwnV.mono HO.out hsz2) HB.out
end
section
open Go.RowKit
theorem cutPost_some {l : List Rl} {w w' : World} {e : Ending} (h : CutPost (some l) w e w') : ∃ a c, e = .returned (.tuple #[.slice a l.length c, .int .i64 0]) ∧ OwnQ w' w.heap.size (.slice a l.length c) l ∧ Below w.heap.size w w' := by
 obtain ⟨⟨v, he, ho⟩, hb⟩ := h
 obtain ⟨a, c, hv⟩ := OwnV.form ho
 rw [List.length_map] at hv
 subst hv
 exact ⟨a, c, he, ho, hb⟩
theorem cutPost_none {w w' : World} {e : Ending} (h : CutPost none w e w') : e = .returned (.tuple #[.slice none 0 0, .int .i64 2]) ∧ Below w.heap.size w w' := h
theorem parseGroup_any (s : ByteArray) (hs : s.size ≤ 100000) (hp : ∀ p ∈ Lib.splitN s.data.toList sepG 65, p.length ≤ 4000) (w : World) (hL : LaidQ w) : Calls Tryz.prog 118 #[.string s] w (CutPost (parseG s.data.toList) w) := by
 have C := cutR_any s ⟨#[32, 124, 32]⟩ hs (by decide) hp w hL
 have e : cutP parseR (ByteArray.mk #[32, 124, 32]).data.toList s.data.toList = parseG s.data.toList := rfl
 rw [e] at C
 cases hq : parseG s.data.toList with
 | none =>
  rw [hq] at C
  have C2 := C.mono (fun e w' h => cutPost_none h)
  clear C hq e hL hp hs
  go_enter Tryz.func118, Tryz.ntmps118
  go_wp2_with (go_at_call 150; (with_reducible refine C2.mono ?_); rintro e w1 ⟨rfl, hb⟩; have HB := Lib.hid hb; clear hb)
  go_ret2
  exact ⟨rfl, HB.out⟩
 | some l =>
  rw [hq] at C
  have C2 := C.mono (fun e w' h => cutPost_some h)
  have HP : Hid (∀ v w', OwnQ w' w.heap.size v l → Below w.heap.size w w' → CutPost (some l) w (.returned (.tuple #[v, .int .i64 0])) w') := Lib.hid (fun v w' h1 h2 => ⟨⟨v, rfl, h1⟩, h2⟩)
  generalize hn : l.length = n at *
  clear C hq e hL hp hs hn
  go_enter Tryz.func118, Tryz.ntmps118
  go_wp2_with (go_at_call 150; (with_reducible refine C2.mono ?_); rintro e w1 ⟨a, c, rfl, ho, hb⟩; have HO := Lib.hid ho; have HB := Lib.hid hb; clear hb ho)
  go_ret2
  exact HP.out _ _ HO.out HB.out
theorem parseGroupsR_any (s : ByteArray) (hs : s.size ≤ 100000) (hp : ∀ p ∈ Lib.splitN s.data.toList sepA 65, p.length ≤ 4000) (w : World) (hL : LaidQ w) : Calls Tryz.prog 119 #[.string s, .func (.func 120) #[] #[]] w (CutPost (parseQ s.data.toList) w) := by
 have C := cutR_any s ⟨#[44, 32]⟩ hs (by decide) hp w hL
 have he := emptyT s
 by_cases h0 : s.size = 0
 ·
  have hn : s.data.toList = [] := List.eq_nil_of_length_eq_zero (by rw [← sizeOf]; exact h0)
  rw [decide_eq_true h0] at he
  have HP : Hid (∀ w', Below w.heap.size w w' → CutPost (parseQ s.data.toList) w (.returned (.tuple #[.slice none 0 0, .int .i64 0])) w') := Lib.hid (fun w' hb => by rw [hn]; exact ⟨⟨_, rfl, OwnV.nil _ _ _ _⟩, hb⟩)
  clear C h0 hn hp hs hL
  go_enter Tryz.func119, Tryz.ntmps119
  go_wp2
  go_ret2
  exact HP.out _ (Below.refl _ _)
 have hn : s.data.toList ≠ [] := fun e => h0 (by rw [sizeOf, e]; rfl)
 rw [decide_eq_false h0] at he
 have e : cutP parseR (ByteArray.mk #[44, 32]).data.toList s.data.toList = parseQ s.data.toList := by unfold parseQ; rw [if_neg hn]
 rw [e] at C
 cases hq : parseQ s.data.toList with
 | none =>
  rw [hq] at C
  have C2 := C.mono (fun e w' h => cutPost_none h)
  clear C hq e hL hp hs h0 hn
  go_enter Tryz.func119, Tryz.ntmps119
  go_wp2_with (go_at_call 150; (with_reducible refine C2.mono ?_); rintro e w1 ⟨rfl, hb⟩; have HB := Lib.hid hb; clear hb)
  go_ret2
  exact ⟨rfl, HB.out⟩
 | some l =>
  rw [hq] at C
  have C2 := C.mono (fun e w' h => cutPost_some h)
  have HP : Hid (∀ v w', OwnQ w' w.heap.size v l → Below w.heap.size w w' → CutPost (some l) w (.returned (.tuple #[v, .int .i64 0])) w') := Lib.hid (fun v w' h1 h2 => ⟨⟨v, rfl, h1⟩, h2⟩)
  generalize hln : l.length = n at *
  clear C hq e hL hp hs hln h0 hn
  go_enter Tryz.func119, Tryz.ntmps119
  go_wp2_with (go_at_call 150; (with_reducible refine C2.mono ?_); rintro e w1 ⟨a, c, rfl, ho, hb⟩; have HO := Lib.hid ho; have HB := Lib.hid hb; clear hb ho)
  go_ret2
  exact HP.out _ _ HO.out HB.out
theorem parseListQ_any (s : ByteArray) (hs : s.size ≤ 100000) (hp : ∀ p ∈ Lib.splitN s.data.toList sepA 65, p.length ≤ 4000) (w : World) (hL : LaidQ w) : Calls Tryz.prog 70 #[.string s] w (CutPost (parseQ s.data.toList) w) := by
 have C := parseGroupsR_any s hs hp w hL
 cases hq : parseQ s.data.toList with
 | none =>
  rw [hq] at C
  have C2 := C.mono (fun e w' h => cutPost_none h)
  clear C hq hL hp hs
  go_enter Tryz.func70, Tryz.ntmps70
  go_wp2_with (go_at_call 119; (with_reducible refine C2.mono ?_); rintro e w1 ⟨rfl, hb⟩; have HB := Lib.hid hb; clear hb)
  go_ret2
  exact ⟨rfl, HB.out⟩
 | some l =>
  rw [hq] at C
  have C2 := C.mono (fun e w' h => cutPost_some h)
  have HP : Hid (∀ v w', OwnQ w' w.heap.size v l → Below w.heap.size w w' → CutPost (some l) w (.returned (.tuple #[v, .int .i64 0])) w') := Lib.hid (fun v w' h1 h2 => ⟨⟨v, rfl, h1⟩, h2⟩)
  generalize hn : l.length = n at *
  clear C hq hL hp hs hn
  go_enter Tryz.func70, Tryz.ntmps70
  go_wp2_with (go_at_call 119; (with_reducible refine C2.mono ?_); rintro e w1 ⟨a, c, rfl, ho, hb⟩; have HO := Lib.hid ho; have HB := Lib.hid hb; clear hb ho)
  go_ret2
  exact HP.out _ _ HO.out HB.out
end
section
open Go.RowKit
theorem infoSl : (Tryz.prog.info? 39).map (fun i => (i.zero, i.size, i.bytes)) = some (some (.slice none 0 0), 1, 24) := by kernel_rfl
theorem kinds_apart {w : World} {b1 b2 s1 s2 n1 n2 : Nat} {v1 v2 : Value} {x1 x2 : List Value} {e1 e2 : TypeId} (h1 : w.ownsRow b1 e1 s1 v1 n1 x1) (h2 : w.ownsRow b2 e2 s2 v2 n2 x2) (he : e1 ≠ e2) : v1.ownBlock = none ∨ v1.ownBlock ≠ v2.ownBlock := by
 rcases h1.2 with ⟨rfl, _⟩ | ⟨g, cap, cur, rfl, hb, hg, _⟩
 ·
  exact .inl rfl
 ·
  refine .inr fun e => ?_
  rcases h2.2 with ⟨rfl, _⟩ | ⟨g', cap', cur', rfl, hb', hg', _⟩
  ·
   simp [Value.ownBlock] at e
  ·
   simp only [Value.ownBlock, Option.some.injEq] at e
   subst e
   rw [hg] at hg'
   simp only [Option.some.injEq, Obj.cells.injEq] at hg'
   exact he hg'.2.1
def OwnGs (w : World) (B : Nat) (v : Value) (L : List Gv) : Prop := OwnV 39 1 w B v (L.map fun x => [x.2]) ∧ ∀ x ∈ L, OwnQ w B x.2 x.1
theorem OwnGs.nil (w : World) (B : Nat) : OwnGs w B (.slice none 0 0) [] := ⟨OwnV.nil _ _ _ _, fun x hx => by simp at hx⟩
theorem OwnGs.on {w w' : World} {B : Nat} {v : Value} {L : List Gv} (h : OwnGs w B v L) (hb : Below w.heap.size w w') : OwnGs w' B v L := ⟨OwnV.on h.1 hb, fun x hx => OwnV.on (h.2 x hx) hb⟩
theorem OwnGs.mono {w : World} {B B' : Nat} {v : Value} {L : List Gv} (h : OwnGs w B v L) (hb : B' ≤ B) : OwnGs w B' v L := ⟨OwnV.mono h.1 hb, fun x hx => OwnV.mono (h.2 x hx) hb⟩
theorem OwnGs.holds {w : World} {B : Nat} {v : Value} {L : List Gv} (h : OwnGs w B v L) : HoldGs w v L := ⟨OwnV.holds h.1, fun x hx => OwnV.holds (h.2 x hx)⟩
theorem OwnGs.app {w w' : World} {o : Obj} {B : Nat} {v v' sv : Value} {L : List Gv} {x : List Rl} (h : OwnGs w B v L) (hx : OwnQ w B sv x) (hown : w'.ownsRow B 39 1 v' (L.length + 1) ((L.map fun x => [x.2]).flatten ++ [sv])) (hg : (w.alloc o).grownBy w' v.ownBlock) : OwnGs w' B v' (L ++ [(x, sv)]) := by
 have key : ∀ (s : Value) (y : List Rl), OwnQ w B s y → OwnQ w' B s y := fun s y hy => ⟨hy.1, World.ownsRow.kept (World.ownsRow.alloc hy.2 o) hg (kinds_apart hy.2 h.1.2 (by decide))⟩
 refine ⟨?_, fun y hy => ?_⟩
 ·
  rw [List.map_append]
  exact OwnV.app h.1.1 rfl (by rw [List.length_map]; exact hown)
 ·
  rcases List.mem_append.1 hy with e | e
  ·
   exact key _ _ (h.2 y e)
  ·
   rw [List.mem_singleton.1 e]; exact key _ _ hx
def CutPostG (o : Option (List (List Rl))) (w : World) (e : Ending) (w' : World) : Prop := (match o with
 | some l => ∃ v L, e = .returned (.tuple #[v, .int .i64 0]) ∧ fsts L = l ∧ OwnGs w' w.heap.size v L
 | none => e = .returned (.tuple #[.slice none 0 0, .int .i64 2])) ∧ Below w.heap.size w w'
theorem cutG_any (s sep : ByteArray) (hs : s.size ≤ 100000) (h1 : 1 ≤ sep.size) (hp : ∀ p ∈ Lib.splitN s.data.toList sep.data.toList 65, p.length ≤ 100000 ∧ ∀ q ∈ Lib.splitN p sepG 65, q.length ≤ 4000) (w : World) (hL : LaidQ w) :
  Calls Tryz.prog 149 #[.string s, .string sep, .func (.func 118) #[] #[]] w (CutPostG (cutP parseG sep.data.toList s.data.toList) w) := by
 obtain ⟨i0, hi, hz0, hz1, hz2'⟩ := info_parts infoSl
 have EN : ∀ args w, (callFunc 118 args).run Tryz.prog w = .ok (.enter 118 args) w := enters_of Tryz.func118 (by kernel_rfl) rfl
 have SP := splitN_any s sep hs h1 w hL
 have hle : (Lib.splitN s.data.toList sep.data.toList 65).length ≤ 65 := by
  unfold Lib.splitN
  have := splitK_len sep.data.toList (min 65 (s.data.toList.length + 1) - 1) s.data.toList
  omega
 obtain ⟨ps, hps⟩ : ∃ ps, Lib.splitN s.data.toList sep.data.toList 65 = ps := ⟨_, rfl⟩
 have hcp : cutP parseG sep.data.toList s.data.toList = if 64 < ps.length then none else ps.mapM parseG := by unfold cutP; rw [hps]
 rw [hps] at SP hle hp
 rw [hcp]
 obtain ⟨m, hm⟩ : ∃ m, ps.length = m := ⟨_, rfl⟩
 rw [hm] at SP hle ⊢
 have HPL := Lib.hid hp
 have HM := Lib.hid hm
 have HL := Lib.hid hL
 have FU := fun a c W => fullS_any a m c (by omega) W
 clear hcp hps hp hm hL hs h1
 by_cases h64 : 64 < m
 ·
  rw [if_pos h64]
  rw [decide_eq_true h64] at FU
  clear h64
  go_enter Tryz.func149, Tryz.ntmps149
  go_wp2_with (first
   | (go_at_call 174; (with_reducible refine SP.mono ?_); rintro e w1 ⟨⟨a, c, rfl, -⟩, hb⟩; have HB := Lib.hid hb; clear hb)
   | (go_at_call 175; (with_reducible refine (FU _ _ _).mono ?_); rintro e w2 ⟨rfl, hb⟩; have HB2 := Lib.hid (HB.out.trans (hb.mono HB.out.size)); clear hb))
  go_ret2
  exact ⟨rfl, HB2.out⟩
 rw [if_neg h64]
 rw [decide_eq_false h64] at FU
 obtain ⟨R, hR⟩ : ∃ R, ps.mapM parseG = R := ⟨_, rfl⟩
 have HR0 : Hid (restM parseG [] (ps.drop 0) = R) := Lib.hid (by unfold restM; rw [List.drop_zero, hR]; cases R <;> simp)
 rw [hR]
 have HYES : Hid (∀ (l : List Gv) v w', R = some (fsts l) → OwnGs w' w.heap.size v l → Below w.heap.size w w' → CutPostG R w (.returned (.tuple #[v, .int .i64 0])) w') := Lib.hid (fun l v w' h1 h2 h3 => by unfold CutPostG; rw [h1]; exact ⟨⟨v, l, rfl, rfl, h2⟩, h3⟩)
 have HNO : Hid (R = none → ∀ w', Below w.heap.size w w' → CutPostG R w (.returned (.tuple #[.slice none 0 0, .int .i64 2])) w') := Lib.hid (fun h1 w' h3 => by unfold CutPostG; rw [h1]; exact ⟨rfl, h3⟩)
 clear hR h64
 go_enter Tryz.func149, Tryz.ntmps149
 go_wp2_with (first
  | (go_at_call 174; (with_reducible refine SP.mono ?_); rintro e w1 ⟨⟨a, c, rfl, hh⟩, hb⟩; have HH := Lib.hid hh; have HB := Lib.hid hb; clear hb hh)
  | (go_at_call 175; (with_reducible refine (FU _ _ _).mono ?_); rintro e w2 ⟨rfl, hb⟩; have HB2 := Lib.hid (HB.out.trans (hb.mono HB.out.size)); have HH2 := Lib.hid (HH.out.on hb); clear hb))
 clear SP FU
 obtain ⟨a', c', b, o, e, -, ha, hcell⟩ := HH2.out
 rw [HM.out] at e ha
 simp only [Value.slice.injEq] at e
 obtain ⟨rfl, -, rfl⟩ := e
 have HC := Lib.hid hcell
 have HL2 := Lib.hid (HL.out.on HB2.out)
 clear hcell HH HH2 HB
 have hsz2 := HB2.out.size
 go_loopw [9, 21] (fun u i wr => ∃ (k : Nat) (xs : List Gv), k ≤ m ∧ i = .int .i64 k ∧ Hid (xs.length = k) ∧ Hid (restM parseG (fsts xs) (ps.drop k) = R) ∧ Hid (OwnGs wr w2.heap.size u xs) ∧ Hid (Below w2.heap.size w2 wr)) (fun _ i _ => m - (intOf i).toNat)
 case atStart => exact ⟨0, [], by omega, rfl, Lib.hid rfl, HR0, Lib.hid (OwnGs.nil _ _), Lib.hid (Below.refl _ _)⟩
 case round =>
  clear HR0
  obtain ⟨k, xs, hk, rfl, HXL, HR, HO, HBX⟩ := hrel
  have HB := Lib.hid (HB2.out.trans (HBX.out.mono hsz2))
  have hsz := HB.out.size
  by_cases hlt : k < m
  ·
   obtain ⟨rfl, hbw⟩ := ha (by omega)
   obtain ⟨p, hpk⟩ : ∃ p, ps[k]? = some p := ⟨_, List.getElem?_eq_getElem (by rw [HM.out]; exact hlt)⟩
   have c0 := HC.out k p hpk
   rw [← HBX.out.cell (p := ⟨b, o + k, none⟩) hbw] at c0
   have hpl := HPL.out p (List.mem_of_getElem? hpk)
   have PA := fun W (hb : Below wr.heap.size wr W) => parseGroup_any ⟨p.toArray⟩ (by rw [sizeOf, bytesOf]; exact hpl.1) (by rw [bytesOf]; exact hpl.2) W ((HL2.out.on HBX.out).on hb)
   rw [bytesOf] at PA
   have hdr := drop_atQ hpk
   cases hq : parseG p with
   | none =>
    have G := Lib.hid (HNO.out (by have := HR.out; rw [hdr, restM_bad hq] at this; exact this.symm))
    rw [hq] at PA
    have PA := fun W hb => (PA W hb).mono (fun e w' h => cutPost_none h)
    generalize (⟨p.toArray⟩ : ByteArray) = P at *
    clear hpk hpl hdr hq HR HO HYES HNO hi hz0 hz1 hz2'
    go_wp2_with (go_at_fn 118; (with_reducible refine (PA _ (Below.refl _ _)).mono ?_); rintro e w4 ⟨rfl, hb⟩; have HB4 := Lib.hid (HB.out.trans (hb.mono hsz)); clear hb PA)
    go_ret2
    exact G.out _ HB4.out
   | some x =>
    have HR2 : Hid (∀ sv, restM parseG (fsts (xs ++ [(x, sv)])) (ps.drop (k + 1)) = R) := Lib.hid (fun sv => by have := HR.out; rw [hdr, restM_step hq] at this; rw [show fsts (xs ++ [(x, sv)]) = fsts xs ++ [x] by simp [fsts]]; exact this)
    rw [hq] at PA
    have PA := fun W hb => (PA W hb).mono (fun e w' h => cutPost_some h)
    have hxl : ∀ sv, (xs ++ [(x, sv)]).length = k + 1 := fun sv => by rw [List.length_append, HXL.out]; rfl
    have HXL2 := Lib.hid hxl
    generalize (⟨p.toArray⟩ : ByteArray) = P at *
    obtain ⟨xn, hxn⟩ : ∃ xn, x.length = xn := ⟨_, rfl⟩
    rw [hxn] at PA
    clear hpk hpl hdr hq HR HYES HNO hxl hxn
    go_wp2_with (first
     | (go_at_fn 118; (with_reducible refine (PA _ (Below.refl _ _)).mono ?_); rintro e w4 ⟨ga, gc, rfl, ho, hb⟩; have HB4 := Lib.hid (HB.out.trans (hb.mono hsz)); have HBX4 := Lib.hid (HBX.out.trans (hb.mono HBX.out.size)); have HO4 := Lib.hid (OwnGs.on HO.out hb); have HN4 := Lib.hid (OwnV.mono ho HBX.out.size); have hz4 := HB4.out.size; clear hb PA HO ho)
     | (at_builtin; refine wpList_append_own _ rfl _ _ 38 rfl w2.heap.size 39 i0 _ 1 24 Tryz.underlying38 hi hz0 hz1 hz2' rfl (by decide) _ _ _ rfl (World.ownsRow.alloc HO4.out.1.2 _) ⟨w4.heap.size, 0, none⟩ 1 1 [.slice ga xn gc] rfl rfl ?c1 ?c2 ?c3 ?c4 ?c5 ?_))
    case c1 =>
     intro j u hj
     match j, hj with
     | 0, hj => simp at hj; subst hj; simp [Addr.add]
    case c2 => intro u hu; simp at hu; subst hu; rfl
    case c3 => rw [List.length_map, HXL.out]; unfold maxLen; omega
    case c4 => rw [List.length_map, HXL.out]; omega
    case c5 => have := HBX4.out.size; simp; omega
    intro v' w5 hown' hgrow _
    have HO5 : Hid (OwnGs w5 w2.heap.size v' (xs ++ [(x, .slice ga xn gc)])) := Lib.hid (OwnGs.app HO4.out HN4.out (by simpa using hown') hgrow)
    have HB5 : Hid (Below w2.heap.size w2 w5) := Lib.hid (OwnV.below HBX4.out HO4.out.1 hgrow (Nat.le_refl _) HBX4.out.size)
    have HR5 := Lib.hid (HR2.out (.slice ga xn gc))
    have HXL5 := Lib.hid (HXL2.out (.slice ga xn gc))
    clear hown' hgrow
    go_wp2
    go_roundw
    case rel => exact ⟨k + 1, _, by omega, by go_num, HXL5, HR5, HO5, HB5⟩
    case measure => simp [intOf]; omega
  ·
   obtain rfl : k = m := by omega
   have HE : Hid (R = some (fsts xs)) := Lib.hid (by have := HR.out; rw [List.drop_of_length_le (by rw [HM.out]; omega), restM_nil] at this; exact this.symm)
   clear hlt HR HNO
   go_wp2
   go_ret2
   exact HYES.out _ _ _ HE.out (OwnGs.mono HO.out hsz2) HB.out
end
end Go.Proofs.YtkbkaeefdhkgdaaGreatDoor
