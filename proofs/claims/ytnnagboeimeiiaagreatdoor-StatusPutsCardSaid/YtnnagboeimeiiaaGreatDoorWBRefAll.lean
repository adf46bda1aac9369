import Derived.Test.YtnnagboeimeiiaaGreatDoorWBTexts
import Derived.Test.YtnnagboeimeiiaaGreatDoorWQCut
import Derived.Test.YtnnagboeimeiiaaGreatDoorWUKeyT
import Derived.Test.YtnnagboeimeiiaaGreatDoorWShelf
import Derived.Test.YtnnagboeimeiiaaGreatDoorWUPrint1
import Derived.Test.YtnnagboeimeiiaaGreatDoorWBRefR
import Derived.Test.YtnnagboeimeiiaaGreatDoorWQOnes
namespace Go.Proofs.YtnnagboeimeiiaaGreatDoor
open Go.RowKit
def BigG (l : List Gv) : Prop := ∀ x ∈ l, BigQ x.1 ∧ x.1.length ≤ 500
theorem goodG_right {g : List Rl} (h : ¬ badG g = true) : g.all rightR = true := by
 unfold badG at h
 rw [Bool.or_eq_true, not_or] at h
 simpa using h.2
set_option maxRecDepth 100000 in
set_option maxHeartbeats 16000000 in
theorem allBig_any (v : Value) (l : List Gv) (hl : l.length ≤ 500) (hs : BigG l) (w : World) (h : HoldGs w v l) (hL : LaidV w) : Calls Tryz.prog 67 #[v] w (TwoP (allE (fsts l)) w) := by
 have EN : ∀ args w, (callFunc 115 args).run Tryz.prog w = .ok (.enter 115 args) w := enters_of Tryz.func115 (by kernel_rfl) rfl
 have CF := fun W hb => contG_any 115 #[] EN (fun x => longG x.1) v l (by omega) W (h.on hb) (fun W' x hx _ => by
   obtain ⟨a, c, -, -, e, -⟩ := (h.2 x hx).parts
   have hh := hs x hx
   rw [e]
   have := fullQ_any a x.1.length c (by omega) W'
   simpa [longG] using this)
 have HA : Hid (l.any (fun x => longG x.1) = (fsts l).any longG) := Lib.hid (by rw [List.any_map]; rfl)
 rw [HA.out] at CF
 have JN : (fsts l).any badG = false → ∀ W, Below w.heap.size w W → Calls Tryz.prog 117 #[v, .string ⟨#[44, 32]⟩, .func (.func 118) #[] #[]] W fun e w' => e = .returned (.string (bsT (Lib.join (l.map gtx) (ByteArray.mk #[44, 32]).data.toList))) ∧ Below W.heap.size W w' := fun hq W hb =>
   joinedG_any ⟨#[44, 32]⟩ (by decide) v l (by omega) (fun x hx => ⟨smallQ_right (goodG_right (List.any_eq_false.1 hq x.1 (List.mem_map_of_mem hx))), (hs x hx).2⟩) W (h.on hb)
 obtain ⟨a, c, b, o, rfl, hc, ha, hcell⟩ := h.parts
 have FU := fun W => fullG_any a l.length c (by omega) W
 obtain ⟨R, hR⟩ : ∃ R, bsT (Lib.join (l.map gtx) (ByteArray.mk #[44, 32]).data.toList) = R := ⟨_, rfl⟩
 rw [hR] at JN
 have HRA : Hid (R = bsT (textA (fsts l))) := Lib.hid (by rw [← hR]; unfold textA; rw [List.map_map]; rfl)
 have hfl : (fsts l).length = l.length := List.length_map ..
 have HE : Hid (allE (fsts l) = if decide (64 < l.length) || (fsts l).any longG then ([], 22) else if (fsts l).any badG then ([], 1) else (textA (fsts l), 0)) := Lib.hid (by unfold allE; rw [hfl])
 have HC := Lib.hid hcell
 have HG := Lib.hid h
 have HS := Lib.hid hs
 have HL := Lib.hid hL
 obtain ⟨n, hN⟩ : ∃ n, l.length = n := ⟨_, rfl⟩
 rw [hN] at hc ha hl FU HE CF JN ⊢
 have HN := Lib.hid hN
 clear hcell hN h hs hL hR hfl EN
 obtain ⟨f1, hf1⟩ : ∃ f1, decide (64 < n) = f1 := ⟨_, rfl⟩
 obtain ⟨f2, hf2⟩ : ∃ f2, (fsts l).any longG = f2 := ⟨_, rfl⟩
 rw [hf1] at FU HE
 rw [hf2] at CF HE
 clear hf1 hf2
 by_cases hf : f1 = true
 · subst hf
   have HP : Hid (∀ w', Below w.heap.size w w' → TwoP (allE (fsts l)) w (.returned (.tuple #[.string ⟨#[]⟩, .int .i64 22])) w') := Lib.hid (fun w' hb => ⟨by rw [HE.out, if_pos (by simp)], hb⟩)
   clear HE CF JN
   go_enter Tryz.func67, Tryz.ntmps67
   go_wp2_with (go_at_call 113; (with_reducible refine (FU _).mono ?_); rintro e w1 ⟨rfl, hb⟩; have HB := Lib.hid hb; clear hb)
   go_ret2
   exact HP.out _ HB.out
 obtain rfl : f1 = false := by cases f1 <;> simp_all
 clear hf
 cases f2
 case true =>
   have HP : Hid (∀ w', Below w.heap.size w w' → TwoP (allE (fsts l)) w (.returned (.tuple #[.string ⟨#[]⟩, .int .i64 22])) w') := Lib.hid (fun w' hb => ⟨by rw [HE.out, if_pos (by simp)], hb⟩)
   clear HE JN
   go_enter Tryz.func67, Tryz.ntmps67
   go_wp2_with (first
     | (go_at_call 113; (with_reducible refine (FU _).mono ?_); rintro e w1 ⟨rfl, hb⟩; have HB := Lib.hid hb; clear hb)
     | (go_at_call 114; (with_reducible refine (CF _ HB.out).mono ?_); rintro e w2 ⟨rfl, hb⟩; have HB2 := Lib.hid (HB.out.trans (hb.mono HB.out.size)); clear hb))
   go_ret2
   exact HP.out _ HB2.out
 case false =>
   have H1 : Hid ((fsts l).any badG = true → ∀ w', Below w.heap.size w w' → TwoP (allE (fsts l)) w (.returned (.tuple #[.string ⟨#[]⟩, .int .i64 1])) w') := Lib.hid (fun hq w' hb => ⟨by rw [HE.out, if_neg (by simp), if_pos hq], hb⟩)
   have H0 : Hid ((fsts l).any badG = false → ∀ w', Below w.heap.size w w' → TwoP (allE (fsts l)) w (.returned (.tuple #[.string R, .int .i64 0])) w') := Lib.hid (fun hq w' hb => ⟨by rw [HE.out, if_neg (by simp), if_neg (by rw [hq]; simp), HRA.out], hb⟩)
   clear HE HRA
   go_enter Tryz.func67, Tryz.ntmps67
   go_wp2_with (first
     | (go_at_call 113; (with_reducible refine (FU _).mono ?_); rintro e w1 ⟨rfl, hb⟩; have HB := Lib.hid hb; clear hb)
     | (go_at_call 114; (with_reducible refine (CF _ HB.out).mono ?_); rintro e w2 ⟨rfl, hb⟩; have HB2 := Lib.hid (HB.out.trans (hb.mono HB.out.size)); clear hb))
   clear CF FU
   go_loopw [14] (fun i wr => ∃ k : Nat, k ≤ n ∧ i = .int .i64 k ∧ Hid (∀ (j : Nat) y, j < k → l[j]? = some y → badG y.1 = false) ∧ Hid (Below w.heap.size w wr)) (fun i _ => n - (intOf i).toNat)
   case atStart => exact ⟨0, by omega, rfl, Lib.hid (fun j y hj => by omega), HB2⟩
   case round =>
     obtain ⟨k, hk, rfl, H, HB3⟩ := hrel
     have hsz := HB3.out.size
     by_cases hlt : k < n
     · obtain ⟨rfl, hbw⟩ := ha (by omega)
       obtain ⟨⟨g0, sv⟩, hx⟩ : ∃ x, l[k]? = some x := ⟨_, List.getElem?_eq_getElem (by rw [HN.out]; exact hlt)⟩
       have hgx := HG.out.2 _ (List.mem_of_getElem? hx)
       have hsm := HS.out _ (List.mem_of_getElem? hx)
       have c0 := HC.out k _ hx
       dsimp only at c0 hsm hgx
       rw [← HB3.out.cell (p := ⟨b, o + k, none⟩) hbw] at c0
       have AR := allRightBig_any sv g0 (by omega) hsm.1 wr (HoldV.on hgx HB3.out) (HL.out.on HB3.out)
       obtain ⟨sa, sc, -, -, hsv, -⟩ := hgx.parts
       subst hsv
       have HX := Lib.hid hx
       have HNX : Hid (badG g0 = false → ∀ (j : Nat) y, j < k + 1 → l[j]? = some y → badG y.1 = false) := Lib.hid (fun hq j y hj hy => by
         by_cases e : j = k
         · subst e
           rw [HX.out] at hy; cases hy
           exact hq
         · exact H.out j y (by omega) hy)
       have HBD : Hid (badG g0 = true → ∀ w', Below w.heap.size w w' → TwoP (allE (fsts l)) w (.returned (.tuple #[.string ⟨#[]⟩, .int .i64 1])) w') := Lib.hid (fun hq => H1.out (bad_hit HX.out hq))
       clear hx hgx H
       by_cases h0 : g0.length = 0
       · have G := Lib.hid (HBD.out (by unfold badG; rw [decide_eq_true h0]; rfl))
         have e1 : ((g0.length : Int) == 0) = true := by rw [h0]; rfl
         clear AR HNX HBD
         generalize g0.length = gn at *
         clear h0
         go_wp2
         go_ret2
         exact G.out _ HB3.out
       · have e1 : ((g0.length : Int) == 0) = false := by rw [beq_eq_false_iff_ne]; omega
         have hbg : badG g0 = !g0.all rightR := by unfold badG; rw [decide_eq_false h0, Bool.false_or]
         cases hr : g0.all rightR
         · rw [hr] at AR hbg
           have G := Lib.hid (HBD.out hbg)
           clear HNX HBD hbg hr
           generalize g0.length = gn at *
           clear h0
           go_wp2_with (go_at_call 116; (with_reducible refine AR.mono ?_); rintro e w4 ⟨rfl, hb⟩; have HB4 := Lib.hid (HB3.out.trans (hb.mono hsz)); clear hb AR)
           go_ret2
           exact G.out _ HB4.out
         · rw [hr] at AR hbg
           have G := Lib.hid (HNX.out hbg)
           clear HNX HBD hbg hr
           generalize g0.length = gn at *
           clear h0
           go_wp2_with (go_at_call 116; (with_reducible refine AR.mono ?_); rintro e w4 ⟨rfl, hb⟩; have HB4 := Lib.hid (HB3.out.trans (hb.mono hsz)); clear hb AR)
           go_roundw
           case rel => exact ⟨k + 1, by omega, by go_num, G, HB4⟩
           case measure => simp [intOf]; omega
     · obtain rfl : k = n := by omega
       have G := Lib.hid (H0.out (bad_miss (fun j y hy => H.out j y (by have := (List.getElem?_eq_some_iff.1 hy).1; rw [HN.out] at this; exact this) hy)))
       have JQ := JN (bad_miss (fun j y hy => H.out j y (by have := (List.getElem?_eq_some_iff.1 hy).1; rw [HN.out] at this; exact this) hy))
       clear hlt H H0 H1 JN
       go_wp2_with (go_at_call 117; (with_reducible refine (JQ _ HB3.out).mono ?_); rintro e w4 ⟨rfl, hb⟩; have HB4 := Lib.hid (HB3.out.trans (hb.mono hsz)); clear hb)
       go_ret2
       exact G.out _ HB4.out
end Go.Proofs.YtnnagboeimeiiaaGreatDoor
namespace Go.Proofs.YtnnagboeimeiiaaGreatDoor
open Go.RowKit
def PredT (l : List Bs) (g : Nat) (lb : Array Value) (p : Bs → Bool) (w : World) : Prop :=
 ∀ W x, x ∈ l → Below w.heap.size w W → Calls Tryz.prog g (#[.string (⟨x.toArray⟩ : ByteArray)] ++ lb) W fun e w' => e = .returned (.bool (p x)) ∧ Below W.heap.size W w'
def idxT (l : List (Bs)) (p : Bs → Bool) : Int := match l.findIdx? p with
 | some k => (k : Int)
 | none => -1
theorem idxT_hit {l : List (Bs)} {p : Bs → Bool} {k : Nat} {x : Bs} (hx : l[k]? = some x) (hp : p x = true) (hb : ∀ (j : Nat) y, j < k → l[j]? = some y → p y = false) : l.findIdx? p = some k := by
 rw [List.findIdx?_eq_some_iff_getElem]
 obtain ⟨hk, e⟩ := List.getElem?_eq_some_iff.1 hx
 exact ⟨hk, by rw [e]; exact hp, fun j hj => by rw [hb j _ hj (List.getElem?_eq_getElem (by omega))]; simp⟩
theorem idxT_miss {l : List (Bs)} {p : Bs → Bool} (hb : ∀ (j : Nat) y, l[j]? = some y → p y = false) : l.findIdx? p = none := by
 rw [List.findIdx?_eq_none_iff]
 intro y hy
 obtain ⟨j, hj⟩ := List.mem_iff_getElem?.1 hy
 exact hb j y hj
set_option maxRecDepth 100000 in
set_option maxHeartbeats 4000000 in
theorem idxT_any (g : Nat) (lb : Array Value) (eg : ∀ args w, (callFunc g args).run Tryz.prog w = .ok (.enter g args) w) (p : Bs → Bool) (v : Value) (l : List (Bs)) (hl : l.length ≤ 90000) (w : World) (h : HoldT w v l) (hp : PredT l g lb p w) :
   Calls Tryz.prog 180 #[v, .func (.func g) #[] lb] w fun e w' => e = .returned (.int .i64 (idxT l p)) ∧ Below w.heap.size w w' := by
 obtain ⟨a, c, b, o, rfl, hc, ha, hcell⟩ := h
 have HC := Lib.hid hcell
 obtain ⟨Z, HZ⟩ : ∃ Z, Hid (idxT l p = Z) := ⟨_, rfl⟩
 rw [HZ.out]
 have HP := Lib.hid hp
 obtain ⟨n, hN⟩ : ∃ n, l.length = n := ⟨_, rfl⟩
 rw [hN] at hc ha hl ⊢
 have HN := Lib.hid hN
 clear hcell hp hN
 go_enter Tryz.func180, Tryz.ntmps180
 go_wp2
 go_loopw [8] (fun i wr => ∃ k : Nat, k ≤ n ∧ i = .int .i64 k ∧ Hid (∀ (j : Nat) y, j < k → l[j]? = some y → p y = false) ∧ Hid (Below w.heap.size w wr)) (fun i _ => n - (intOf i).toNat)
 case atStart => exact ⟨0, by omega, rfl, Lib.hid (fun j y hj => by omega), Lib.hid (Below.refl _ _)⟩
 case round =>
   obtain ⟨k, hk, rfl, H, HB⟩ := hrel
   by_cases hlt : k < n
   · obtain ⟨rfl, hbw⟩ := ha (by omega)
     obtain ⟨a0, hx⟩ : ∃ x, l[k]? = some x := ⟨_, List.getElem?_eq_getElem (by rw [HN.out]; exact hlt)⟩
     have c0 := HC.out k a0 hx
     rw [← HB.out.cell (p := ⟨b, o + k, none⟩) hbw] at c0
     have hcall := HP.out wr a0 (List.mem_of_getElem? hx) HB.out
     have HX := Lib.hid hx
     clear hx
     cases hq : p a0
     · rw [hq] at hcall
       have HK : Hid (∀ (j : Nat) y, j < k + 1 → l[j]? = some y → p y = false) := Lib.hid (fun j y hj hy => by
         by_cases e : j = k
         · subst e
           rw [HX.out] at hy; cases hy
           exact hq
         · exact H.out j y (by omega) hy)
       clear hq H
       generalize (⟨a0.toArray⟩ : ByteArray) = X0 at *
       go_wp2_with (go_at_fn g; refine hcall.mono ?_; rintro e w1 ⟨rfl, hb1⟩; have HB1 := Lib.hid (HB.out.trans (hb1.mono HB.out.size)); clear hb1)
       go_roundw
       case rel => exact ⟨k + 1, by omega, by go_num, HK, HB1⟩
       case measure => simp [intOf]; omega
     · rw [hq] at hcall
       have HF : Hid ((k : Int) = Z) := Lib.hid (by rw [← HZ.out, idxT, idxT_hit HX.out hq H.out])
       clear hq H
       generalize (⟨a0.toArray⟩ : ByteArray) = X0 at *
       go_wp2_with (go_at_fn g; refine hcall.mono ?_; rintro e w1 ⟨rfl, hb1⟩; have HB1 := Lib.hid (HB.out.trans (hb1.mono HB.out.size)); clear hb1)
       go_ret
       exact ⟨reti HF.out, HB1.out⟩
   · obtain rfl : k = n := by omega
     have HF : Hid ((-1 : Int) = Z) := Lib.hid (by rw [← HZ.out, idxT, idxT_miss (fun j y hy => H.out j y (by have := (List.getElem?_eq_some_iff.1 hy).1; rw [HN.out] at this; exact this) hy)])
     clear hlt H
     go_wp2
     go_ret
     exact ⟨reti HF.out, HB.out⟩
theorem idxT_neg {l : List Bs} {p : Bs → Bool} : (0 ≤ idxT l p) = (l.any p = true) := by
 unfold idxT
 cases h : l.findIdx? p with
 | none =>
   rw [List.findIdx?_eq_none_iff] at h
   have : l.any p = false := by rw [List.any_eq_false]; intro x hx; rw [h x hx]; simp
   rw [this]; simp
 | some k =>
   obtain ⟨hk, hp, _⟩ := List.findIdx?_eq_some_iff_getElem.1 h
   have : l.any p = true := List.any_eq_true.2 ⟨_, List.getElem_mem hk, hp⟩
   rw [this]; simp
set_option maxHeartbeats 4000000 in
theorem contT_any (g : Nat) (lb : Array Value) (eg : ∀ args w, (callFunc g args).run Tryz.prog w = .ok (.enter g args) w) (p : Bs → Bool) (v : Value) (l : List Bs) (hl : l.length ≤ 90000) (w : World) (h : HoldT w v l) (hp : PredT l g lb p w) :
   Calls Tryz.prog 146 #[v, .func (.func g) #[] lb] w fun e w' => e = .returned (.bool (l.any p)) ∧ Below w.heap.size w w' := by
 have C := idxT_any g lb eg p v l hl w h hp
 obtain ⟨a, c, b, o, rfl, -⟩ := h
 have HN := Lib.hid (idxT_neg (l := l) (p := p))
 generalize idxT l p = z at *
 generalize hq : l.any p = q at *
 have hz : decide (0 ≤ z) = q := by
   have := HN.out
   cases q
   · rw [decide_eq_false_iff_not, this]; simp
   · rw [decide_eq_true_iff, this]
 generalize l.length = n at *
 clear hp hl hq
 cases q
 all_goals
   go_enter Tryz.func146, Tryz.ntmps146
   go_wp2_with (go_at_call 180; (with_reducible refine C.mono ?_); rintro e w1 ⟨rfl, hb⟩; have HB := Lib.hid hb; clear hb)
   go_ret
   exact ⟨rfl, HB.out⟩
end Go.Proofs.YtnnagboeimeiiaaGreatDoor
namespace Go.Proofs.YtnnagboeimeiiaaGreatDoor
open Go.RowKit Go.Shelf
set_option maxHeartbeats 4000000 in
theorem rightVerU_any (v : ByteArray) (hv : v.size ≤ maxLen) (w : World) (h : LaidV w) : Calls Tryz.prog 47 #[.string v] w fun e w' => e = .returned (.bool (decide ((parseE v.data.toList).2 = 0))) ∧ Below w.heap.size w w' := by
 have PV := parseBig_any v hv w h
 unfold ParsePost parseV verV at PV
 obtain ⟨k, hk⟩ : ∃ k : Int, (parseE v.data.toList).2 = k := ⟨_, rfl⟩
 obtain ⟨z, hz⟩ : ∃ z : Int, (parseE v.data.toList).1.1 = z := ⟨_, rfl⟩
 obtain ⟨U, hU⟩ : ∃ U : ByteArray, (⟨((parseE v.data.toList).1.2.1).toArray⟩ : ByteArray) = U := ⟨_, rfl⟩
 obtain ⟨V, hV⟩ : ∃ V : ByteArray, (⟨((parseE v.data.toList).1.2.2).toArray⟩ : ByteArray) = V := ⟨_, rfl⟩
 simp only [hk, hz, hU, hV] at PV ⊢
 have hkd : Hid (decide (k = 0) = (k == 0)) := Lib.hid rfl
 clear hk hz hU hV h
 go_enter Tryz.func47, Tryz.ntmps47
 go_wp2_with (go_at_call 95; (with_reducible refine PV.mono ?_); rintro e w2 ⟨rfl, hb⟩; have HB := Lib.hid (hb.alloc hb.size (.cells #[.int .i64 z, .string U, .string V] 81)); clear hb)
 go_ret
 exact ⟨retb hkd.out.symm, HB.out⟩
def setU (n7 n8 : Nat) : Int := if 0 < n8 then 5 else if 0 < n7 then 6 else 7
def stateOkU (z : Int) (n7 n8 : Nat) : Bool := if z = 5 ∨ z = 6 then decide (setU n7 n8 = z) else decide (wordU z ≠ []) && decide (setU n7 n8 = 7)
set_option maxRecDepth 100000 in
set_option maxHeartbeats 4000000 in
theorem rightRelsU_any (X0 X1 : ByteArray) (z : Int) (a3 a4 a5 a6 a7 a8 : Option Addr) (n3 n4 n5 n6 n7 n8 m3 m4 m5 m6 m7 m8 : Nat) (dp : List Gv) (cn : List Rl) (hd : dp.length ≤ 500) (hdb : BigG dp) (hc : cn.length ≤ 90000) (hcb : BigQ cn) (w : World) (hh : HoldGs w (.slice a3 n3 m3) dp) (hq : HoldQ w (.slice a4 n4 m4) cn) (hL : LaidU w) : Calls Tryz.prog 49 #[.agg #[.string X0, .string X1, .int .i64 z, .slice a3 n3 m3, .slice a4 n4 m4, .slice a5 n5 m5, .slice a6 n6 m6, .slice a7 n7 m7, .slice a8 n8 m8]] w fun e w' => e = .returned (.bool (decide ((allE (fsts dp)).2 = 0) && decide ((listE cn).2 = 0))) ∧ Below w.heap.size w w' := by
 have HL := Lib.hid hL
 have C1 := fun W (hb : Below w.heap.size w W) => allBig_any (.slice a3 n3 m3) dp hd hdb W (hh.on hb) (HL.out.on hb).q.v
 have C2 := fun W (hb : Below w.heap.size w W) => listBig_any (.slice a4 n4 m4) cn hc hcb W (HoldV.on hq hb) (HL.out.on hb).q.v
 unfold TwoP at C1 C2
 generalize (allE (fsts dp)).2 = y1 at *
 generalize (listE cn).2 = y2 at *
 generalize bsT (allE (fsts dp)).1 = T1 at *
 generalize bsT (listE cn).1 = T2 at *
 clear hL hh hq hd hdb hc hcb
 obtain ⟨x0, x1, x2, x3, x4, x5, x6, x7, x8⟩ := boxV9 w (.string X0) (.string X1) (.int .i64 z) (.slice a3 n3 m3) (.slice a4 n4 m4) (.slice a5 n5 m5) (.slice a6 n6 m6) (.slice a7 n7 m7) (.slice a8 n8 m8) 43
 have B0 := (Below.refl w.heap.size w).alloc (Nat.le_refl _) (.cells #[.string X0, .string X1, .int .i64 z, .slice a3 n3 m3, .slice a4 n4 m4, .slice a5 n5 m5, .slice a6 n6 m6, .slice a7 n7 m7, .slice a8 n8 m8] 43)
 have HB0 := Lib.hid B0
 have h1 : decide (y1 = 0) = (y1 == 0) := rfl
 have h2 : decide (y2 = 0) = (y2 == 0) := rfl
 rw [h1, h2]
 clear h1 h2
 generalize hq1 : (y1 == 0) = b1
 generalize hq2 : (y2 == 0) = b2
 cases b1 <;> cases b2
 all_goals
   go_enter Tryz.func49, Tryz.ntmps49
   go_wp2_with (first
     | (go_at_call 67; (with_reducible refine (C1 _ HB0.out).mono ?_); rintro e w1 ⟨rfl, hb⟩; have HB1 := Lib.hid (HB0.out.trans (hb.mono HB0.out.size)); rw [← hb.cell (p := ⟨w.heap.size, 4, none⟩) (by simp)] at x4; clear hb)
     | (go_at_call 68; (with_reducible refine (C2 _ HB1.out).mono ?_); rintro e w2 ⟨rfl, hb⟩; have HB2 := Lib.hid (HB1.out.trans (hb.mono HB1.out.size)); clear hb))
   go_ret
   exact ⟨rfl, HB2.out⟩
set_option maxRecDepth 100000 in
set_option maxHeartbeats 4000000 in
theorem notName_any (s : ByteArray) (hs : s.size ≤ maxLen) (w : World) : Calls Tryz.prog 147 #[.string s] w fun e w' => e = .returned (.bool (!nameB s.data.toList)) ∧ Below w.heap.size w w' := by
 have N := fun W => nameBig_any s hs W
 generalize nameB s.data.toList = q at *
 go_enter Tryz.func147, Tryz.ntmps147
 go_wp2_with (go_at_call 46; (with_reducible refine (N _).mono ?_); rintro e w1 ⟨rfl, rfl⟩)
 go_ret
 exact ⟨rfl, Below.refl _ _⟩
set_option maxRecDepth 100000 in
set_option maxHeartbeats 4000000 in
theorem rightRepU_any (v : Value) (l : List Bs) (hl : l.length ≤ 90000) (hb : ∀ x ∈ l, x.length ≤ maxLen) (w : World) (h : HoldT w v l) : Calls Tryz.prog 96 #[v] w fun e w' => e = .returned (.bool (decide (l.length ≤ 64) && l.all nameB)) ∧ Below w.heap.size w w' := by
 have C := contT_any 147 #[] (enters_of Tryz.func147 (by kernel_rfl) rfl) (fun x => !nameB x) v l hl w h (fun W x hx hW => by
   have := notName_any (bsT x) (by rw [sizeOf, bytesOf]; exact hb x hx) W
   rw [bytesOf] at this
   exact this)
 have HA : l.all nameB = !(l.any fun x => !nameB x) := by rw [List.not_any_eq_all_not]; simp
 rw [HA]
 clear HA
 obtain ⟨a, c, b, o, rfl, -⟩ := h
 generalize (l.any fun x => !nameB x) = q at *
 generalize l.length = n at *
 clear hb
 have e : decide (n ≤ 64) = decide ((n : Int) ≤ 64) := by congr 1; apply propext; omega
 rw [e]
 by_cases h64 : (n : Int) ≤ 64
 · rw [decide_eq_true h64]
   go_enter Tryz.func96, Tryz.ntmps96
   go_wp2_with (go_at_call 146; (with_reducible refine C.mono ?_); rintro e w1 ⟨rfl, hb⟩; have HB := Lib.hid hb; clear hb)
   go_ret
   exact ⟨rfl, HB.out⟩
 · rw [decide_eq_false h64]
   go_enter Tryz.func96, Tryz.ntmps96
   go_wp2
   go_ret
   exact ⟨rfl, Below.refl _ _⟩
end Go.Proofs.YtnnagboeimeiiaaGreatDoor
namespace Go.Proofs.YtnnagboeimeiiaaGreatDoor
open Go.RowKit
set_option maxRecDepth 100000 in
set_option maxHeartbeats 16000000 in
theorem allEBig_ref (v : Value) (l : List Gv) (hl : l.length ≤ 500) (hs : BigG l) (w : World) (h : HoldGs w v l) : Calls Tryz.prog 27 #[v] w (TwoP (allE (fsts l)) w) := by
 obtain ⟨i0, hi, hz0, hz1, hz2'⟩ := info_parts infoT
 obtain ⟨a, c, b, o, rfl, hc, ha, hcell⟩ := h.parts
 have hfl : (fsts l).length = l.length := List.length_map ..
 have HE : Hid (allE (fsts l) = if decide (64 < l.length) || (fsts l).any longG then ([], 22) else if (fsts l).any badG then ([], 1) else (textA (fsts l), 0)) := Lib.hid (by unfold allE; rw [hfl])
 have HC := Lib.hid hcell
 have HG := Lib.hid h
 have HS := Lib.hid hs
 obtain ⟨n, hN⟩ : ∃ n, l.length = n := ⟨_, rfl⟩
 rw [hN] at hc ha hl HE ⊢
 have HN := Lib.hid hN
 clear hcell hN h hs hfl
 have H22 : Hid ((decide (64 < n) = true ∨ (fsts l).any longG = true) → ∀ w', Below w.heap.size w w' → TwoP (allE (fsts l)) w (.returned (.tuple #[.string ⟨#[]⟩, .int .i64 22])) w') := Lib.hid (fun hq w' hb => ⟨by rw [HE.out, if_pos (by rcases hq with e | e <;> rw [e] <;> simp)], hb⟩)
 have H1 : Hid (decide (64 < n) = false → (fsts l).any longG = false → (fsts l).any badG = true → ∀ w', Below w.heap.size w w' → TwoP (allE (fsts l)) w (.returned (.tuple #[.string ⟨#[]⟩, .int .i64 1])) w') := Lib.hid (fun q1 q2 q3 w' hb => ⟨by rw [HE.out, if_neg (by rw [q1, q2]; simp), if_pos q3], hb⟩)
 have H0 : Hid (decide (64 < n) = false → (fsts l).any longG = false → (fsts l).any badG = false → ∀ R w', R = bsT (textA (fsts l)) → Below w.heap.size w w' → TwoP (allE (fsts l)) w (.returned (.tuple #[.string R, .int .i64 0])) w') := Lib.hid (fun q1 q2 q3 R w' hR hb => ⟨by rw [HE.out, if_neg (by rw [q1, q2]; simp), if_neg (by rw [q3]; simp), hR], hb⟩)
 clear HE
 go_enter Tryz.func27, Tryz.ntmps27
 go_wp2
 go_loop [4] (fun i => ∃ k : Nat, k ≤ n ∧ i = .int .i64 k ∧ Hid (∀ (j : Nat) y, j < k → l[j]? = some y → longG y.1 = false)) (fun i => n - (intOf i).toNat)
 case atStart => exact ⟨0, by omega, rfl, Lib.hid (fun j y hj => by omega)⟩
 case round =>
   obtain ⟨k, hk, rfl, H⟩ := hrel
   by_cases hlt : k < n
   · obtain ⟨rfl, hbw⟩ := ha (by omega)
     obtain ⟨⟨g0, sv⟩, hx⟩ : ∃ x, l[k]? = some x := ⟨_, List.getElem?_eq_getElem (by rw [HN.out]; exact hlt)⟩
     have hgx := HG.out.2 _ (List.mem_of_getElem? hx)
     have hsm := HS.out _ (List.mem_of_getElem? hx)
     have c0 := HC.out k _ hx
     dsimp only at c0 hgx hsm
     obtain ⟨sa, sc, -, -, hsv, -⟩ := hgx.parts
     subst hsv
     by_cases h64 : 64 < g0.length
     · have G := Lib.hid (H22.out (.inr (long_hit hx (by unfold longG; exact decide_eq_true h64))))
       have hsz := hsm.2
       generalize g0.length = gn at *
       clear hx hgx hsm H H1 H0
       go_wp2
       go_ret2
       exact G.out _ (Below.refl _ _)
     · have HX : Hid (∀ (j : Nat) y, j < k + 1 → l[j]? = some y → longG y.1 = false) := Lib.hid (fun j y hj hy => by
         by_cases e : j = k
         · subst e
           rw [hx] at hy; cases hy
           unfold longG; exact decide_eq_false h64
         · exact H.out j y (by omega) hy)
       have hsz := hsm.2
       generalize g0.length = gn at *
       clear hx hgx hsm H
       go_wp2
       go_round
       case rel => exact ⟨k + 1, by omega, by go_num, HX⟩
       case measure => simp [intOf]; omega
   · obtain rfl : k = n := by omega
     have HLG := Lib.hid (long_miss (fun j y hy => H.out j y (by have := (List.getElem?_eq_some_iff.1 hy).1; rw [HN.out] at this; exact this) hy))
     clear hlt H
     by_cases h64 : 64 < k
     · have G := Lib.hid (H22.out (.inl (decide_eq_true h64)))
       clear H1 H0
       go_wp2
       go_ret2
       exact G.out _ (Below.refl _ _)
     have G1 := Lib.hid (H1.out (decide_eq_false h64) HLG.out)
     have G0 := Lib.hid (H0.out (decide_eq_false h64) HLG.out)
     clear H1 H0 H22 HLG
     go_wp2
     go_loopw [5, 6] (fun u i wr => ∃ k' : Nat, k' ≤ k ∧ i = .int .i64 k' ∧ Hid (OwnT wr w.heap.size u ((fsts (l.take k')).map textG)) ∧ Hid (∀ (j : Nat) y, j < k' → l[j]? = some y → badG y.1 = false) ∧ Hid (Below w.heap.size w wr)) (fun _ i _ => k - (intOf i).toNat)
     case atStart => exact ⟨0, by omega, rfl, Lib.hid (OwnT.nil _ _), Lib.hid (fun j y hj => by omega), Lib.hid (Below.refl _ _)⟩
     case round =>
       obtain ⟨t, ht, rfl, HO, H, HB⟩ := hrel
       have hsz := HB.out.size
       obtain ⟨wo, rfl⟩ : ∃ wo : World, wo = wr := ⟨_, rfl⟩
       by_cases hlt : t < k
       · obtain ⟨rfl, hbw⟩ := ha (by omega)
         obtain ⟨⟨g0, sv⟩, hx⟩ : ∃ x, l[t]? = some x := ⟨_, List.getElem?_eq_getElem (by rw [HN.out]; exact hlt)⟩
         have hgx := HG.out.2 _ (List.mem_of_getElem? hx)
         have hsm := HS.out _ (List.mem_of_getElem? hx)
         have c0 := HC.out t _ hx
         dsimp only at c0 hgx hsm
         have HC0 : Hid (∀ W, Below w.heap.size w W → W.cell? ⟨b, o + t, none⟩ = some sv) := Lib.hid (fun W hW => (hW.cell (p := ⟨b, o + t, none⟩) hbw).trans c0)
         obtain ⟨sa, sc, sb, so, hsv, hsc, hsa, hscell⟩ := hgx.parts
         subst hsv
         have HIC := Lib.hid hscell
         have HSM := Lib.hid hsm
         obtain ⟨m, hM⟩ : ∃ m, g0.length = m := ⟨_, rfl⟩
         have hm500 : m ≤ 500 := by rw [← hM]; exact hsm.2
         rw [hM] at hsc hsa HC0
         have HM := Lib.hid hM
         have HX := Lib.hid hx
         clear hx hgx hsm c0 hscell hM
         go_wp2
         go_loopw [7, 8] (fun own i wr => ∃ q : Nat, q ≤ m ∧ i = .int .i64 q ∧ Hid (OwnT wr wo.heap.size own ((g0.take q).map textR)) ∧ Hid (∀ (j : Nat) y, j < q → g0[j]? = some y → rightR y = true) ∧ Hid (Below wo.heap.size wo wr)) (fun _ i _ => m - (intOf i).toNat)
         case atStart => exact ⟨0, by omega, rfl, Lib.hid (OwnT.nil _ _), Lib.hid (fun j y hj => by omega), Lib.hid (Below.refl _ _)⟩
         case round =>
           obtain ⟨q, hq, rfl, HO2, H2, HB2⟩ := hrel
           have HBW := Lib.hid (HB.out.trans (HB2.out.mono hsz))
           have hszw := HBW.out.size
           have hszo := HB2.out.size
           have c0 := HC0.out _ HBW.out
           by_cases hqm : q < m
           · obtain ⟨rfl, hsbw⟩ := hsa (by omega)
             obtain ⟨⟨p, z, y⟩, hf⟩ : ∃ f, g0[q]? = some f := ⟨_, List.getElem?_eq_getElem (by rw [HM.out]; exact hqm)⟩
             obtain ⟨d0, d1, d2⟩ := HIC.out q _ hf
             have hx3 := HSM.out.1 _ (List.mem_of_getElem? hf)
             dsimp only at d0 d1 d2 hx3
             rw [← HBW.out.cell (p := ⟨sb, so + q * 3, none⟩) hsbw] at d0
             rw [← HBW.out.cell (p := ⟨sb, so + q * 3 + 1, none⟩) hsbw] at d1
             rw [← HBW.out.cell (p := ⟨sb, so + q * 3 + 2, none⟩) hsbw] at d2
             have RR := fun W => rightQBig_ref (bsT p) (bsT z) (bsT y) (by rw [sizeOf, bytesOf]; omega) (by rw [sizeOf, bytesOf]; omega) W
             have TX := fun (hrr : rightR (p, z, y) = true) W => text_ref7 (bsT p) (bsT z) (bsT y) (by rw [sizeOf, bytesOf]; exact Nat.le_trans (smallR_right hrr).1 (by omega)) (by rw [sizeOf, bytesOf]; exact Nat.le_trans (smallR_right hrr).2.1 (by omega)) (by rw [sizeOf, bytesOf]; exact Nat.le_trans (smallR_right hrr).2.2 (by omega)) W
             rw [bytesOf, bytesOf, bytesOf] at RR TX
             obtain ⟨T, hT⟩ : ∃ T : ByteArray, (⟨(textR (p, z, y)).toArray⟩ : ByteArray) = T := ⟨_, rfl⟩
             have HT : Hid (T.data.toList = textR (p, z, y)) := Lib.hid (by rw [← hT])
             rw [hT] at TX
             have HSN := map_snocQ textR hf
             have hlen : ((g0.take q).map textR).length = q := by rw [List.length_map, List.length_take, HM.out]; omega
             obtain ⟨L, hLL⟩ : ∃ L, (g0.take q).map textR = L := ⟨_, rfl⟩
             rw [hLL] at HO2 hlen HSN
             have HSN := Lib.hid HSN
             have HLEN := Lib.hid hlen
             obtain ⟨r, hr⟩ : ∃ r, rightR (p, z, y) = r := ⟨_, rfl⟩
             rw [hr] at RR
             have HF := Lib.hid hf
             generalize bsT p = P at *
             generalize bsT z = Z at *
             generalize bsT y = Y at *
             cases r
             · have HBAD : Hid (badG g0 = true) := Lib.hid (by unfold badG; rw [all_badQ HF.out hr]; simp)
               have G := Lib.hid (G1.out (bad_hit HX.out HBAD.out))
               clear hf hT hlen hx3 hLL hr TX HO2 H2 H
               go_wp2_with (go_at_call 64; (with_reducible refine (RR _).mono ?_); rintro e w4 ⟨rfl, hb⟩; have HB4 := Lib.hid (HBW.out.trans (hb.mono hszw)); clear hb RR)
               go_ret2
               exact G.out _ HB4.out
             · have H3 : Hid (∀ (j : Nat) y, j < q + 1 → g0[j]? = some y → rightR y = true) := Lib.hid (fun j y hj hy => by
                 by_cases e : j = q
                 · subst e; rw [HF.out] at hy; cases hy; exact hr
                 · exact H2.out j y (by omega) hy)
               have TX := TX hr
               clear hf hT hlen hx3 hLL hr H2
               go_wp2_with (first
                 | (go_at_call 64; (with_reducible refine (RR _).mono ?_); rintro e w4 ⟨rfl, hb⟩; have hb4 := HB2.out.trans (hb.mono hszo); have HB4 := Lib.hid hb4; have HBW4 := Lib.hid (HB.out.trans (hb4.mono hsz)); have c1 := HC0.out _ HBW4.out; have e0 := (hb.cell (p := ⟨sb, so + q * 3, none⟩) (Nat.lt_of_lt_of_le hsbw hszw)).trans d0; have e1 := (hb.cell (p := ⟨sb, so + q * 3 + 1, none⟩) (Nat.lt_of_lt_of_le hsbw hszw)).trans d1; have e2 := (hb.cell (p := ⟨sb, so + q * 3 + 2, none⟩) (Nat.lt_of_lt_of_le hsbw hszw)).trans d2; have HO4 := Lib.hid (OwnT.onQ HO2.out hb); clear hb hb4 RR d0 d1 d2 c0 HO2)
                 | (go_at_call 65; (with_reducible refine (TX _).mono ?_); rintro e w5 ⟨rfl, hb⟩; have HB5 := Lib.hid (HB4.out.trans (hb.mono HB4.out.size)); have HO5 := Lib.hid (OwnT.onQ HO4.out hb); have hz5 := HB5.out.size; clear hb TX)
                 | (at_builtin; refine wpList_append_own _ rfl _ _ 40 rfl wo.heap.size 9 i0 _ 1 16 Tryz.underlying40 hi hz0 hz1 hz2' rfl (by decide) _ _ _ rfl (World.ownsRow.alloc HO5.out _) ⟨w5.heap.size, 0, none⟩ 1 1 [.string T] rfl rfl (by intro j u hj; match j, hj with | 0, hj => simp at hj; subst hj; simp [Addr.add]) (by intro u hu; simp at hu; subst hu; rfl) (by rw [HLEN.out]; unfold maxLen; omega) (by rw [HLEN.out]; omega) (by simp; omega) ?_))
               intro v' w6 hown' hgrow _
               have HO6 : Hid (OwnT w6 wo.heap.size v' ((g0.take (q + 1)).map textR)) := Lib.hid (by rw [HSN.out]; exact OwnT.app HT.out hown')
               have HB6 : Hid (Below wo.heap.size wo w6) := Lib.hid (belowG HB5.out HO5.out hgrow (Nat.le_refl _) hz5)
               clear hown' hgrow
               go_wp2
               go_roundw
               case rel => exact ⟨q + 1, by omega, by go_num, HO6, H3, HB6⟩
               case measure => simp [intOf]; omega
           · obtain rfl : q = m := by omega
             have hall : g0.all rightR = true := all_takeQ (fun j y hy => H2.out j y (by have := (List.getElem?_eq_some_iff.1 hy).1; rw [HM.out] at this; exact this) hy)
             have HTK : Hid ((g0.take q).map textR = g0.map textR) := Lib.hid (by rw [List.take_of_length_le (by rw [HM.out]; omega)])
             have hown := HO2.out
             rw [HTK.out] at hown
             obtain ⟨oa, oc, hov⟩ := OwnT.formQ hown
             rw [List.length_map, HM.out] at hov
             subst hov
             by_cases h0 : q = 0
             · have G := Lib.hid (G1.out (bad_hit HX.out (by unfold badG; rw [HM.out, decide_eq_true h0]; rfl)))
               have e1 : ((q : Int) == 0) = true := by rw [h0]; rfl
               clear hown hall H2 H HO2 h0
               go_wp2
               go_ret2
               exact G.out _ HBW.out
             · have HNB : Hid (badG g0 = false) := Lib.hid (by unfold badG; rw [HM.out, decide_eq_false h0, hall]; rfl)
               have e1 : ((q : Int) == 0) = false := by rw [beq_eq_false_iff_ne]; omega
               have J := join6_any ⟨#[32, 124, 32]⟩ (by decide) _ (g0.map textR) (by rw [List.length_map, HM.out]; omega) (fun p hp => by
                 obtain ⟨x, hx, rfl⟩ := List.mem_map.1 hp
                 have := textR_len (smallR_right (List.all_eq_true.1 hall x hx)); omega) wr hown.holds
               obtain ⟨T, hT⟩ : ∃ T : ByteArray, bsT (Lib.join (g0.map textR) (ByteArray.mk #[32, 124, 32]).data.toList) = T := ⟨_, rfl⟩
               have HT : Hid (T.data.toList = textG g0) := Lib.hid (by rw [← hT]; rfl)
               rw [hT] at J
               have HNX : Hid (∀ (j : Nat) y, j < t + 1 → l[j]? = some y → badG y.1 = false) := Lib.hid (fun j y hj hy => by
                 by_cases e : j = t
                 · subst e; rw [HX.out] at hy; cases hy; exact HNB.out
                 · exact H.out j y (by omega) hy)
               have hsn : (fsts (l.take (t + 1))).map textG = (fsts (l.take t)).map textG ++ [textG g0] := by
                 rw [take_snocQ HX.out]; simp [fsts]
               have hlen : ((fsts (l.take t)).map textG).length = t := by rw [List.length_map, List.length_map, List.length_take, HN.out]; omega
               have HOW := Lib.hid (OwnT.onQ HO.out HB2.out)
               obtain ⟨L, hLL⟩ : ∃ L, (fsts (l.take t)).map textG = L := ⟨_, rfl⟩
               rw [hLL] at hsn hlen HOW
               have HSN := Lib.hid hsn
               have HLEN := Lib.hid hlen
               clear hown hall H2 H HO2 h0 hT hsn hlen hLL HO
               go_wp2_with (first
                 | (go_at_call 33; (with_reducible refine J.mono ?_); rintro e w4 ⟨rfl, rfl⟩; clear J)
                 | (at_builtin; refine wpList_append_own _ rfl _ _ 40 rfl w.heap.size 9 i0 _ 1 16 Tryz.underlying40 hi hz0 hz1 hz2' rfl (by decide) _ _ _ rfl (World.ownsRow.alloc HOW.out _) ⟨wr.heap.size, 0, none⟩ 1 1 [.string T] rfl rfl (by intro j u hj; match j, hj with | 0, hj => simp at hj; subst hj; simp [Addr.add]) (by intro u hu; simp at hu; subst hu; rfl) (by rw [HLEN.out]; unfold maxLen; omega) (by rw [HLEN.out]; omega) (by simp; omega) ?_))
               intro v' w6 hown' hgrow _
               have HO6 : Hid (OwnT w6 w.heap.size v' ((fsts (l.take (t + 1))).map textG)) := Lib.hid (by rw [HSN.out]; exact OwnT.app HT.out hown')
               have HB6 : Hid (Below w.heap.size w w6) := Lib.hid (belowG HBW.out HOW.out hgrow (Nat.le_refl _) hszw)
               clear hown' hgrow
               go_wp2
               go_roundw
               case rel => exact ⟨t + 1, by omega, by go_num, HO6, HNX, HB6⟩
               case measure => simp [intOf]; omega
       · obtain rfl : t = k := by omega
         have HTK : Hid ((fsts (l.take t)).map textG = (fsts l).map textG) := Lib.hid (by rw [List.take_of_length_le (by rw [HN.out]; omega)])
         have G := Lib.hid (G0.out (bad_miss (fun j y hy => H.out j y (by have := (List.getElem?_eq_some_iff.1 hy).1; rw [HN.out] at this; exact this) hy)))
         have hown := HO.out
         rw [HTK.out] at hown
         have J := join6_any ⟨#[44, 32]⟩ (by decide) _ ((fsts l).map textG) (by rw [List.length_map, List.length_map, HN.out]; omega) (fun p hp => by
           obtain ⟨g, hg, rfl⟩ := List.mem_map.1 hp
           obtain ⟨x, hx, rfl⟩ := List.mem_map.1 hg
           have hh := HS.out x hx
           obtain ⟨j, hj⟩ := List.mem_iff_getElem?.1 hx
           have hb := H.out j x (by have := (List.getElem?_eq_some_iff.1 hj).1; rw [HN.out] at this; exact this) hj
           have := textG_len (smallQ_right (goodG_right (by rw [hb]; simp))) hh.2; omega) wo hown.holds
         clear hlt H hown HO
         go_wp2_with (go_at_call 33; (with_reducible refine J.mono ?_); rintro e w4 ⟨rfl, rfl⟩; clear J)
         go_ret2
         exact G.out _ _ (by unfold textA fsts; rw [List.map_map]) HB.out
theorem onesBig {l : List Rl} {L : List Gv} (h : fsts L = onesL l) (hs : BigQ l) : BigG L := fun x hx => by
 have : x.1 ∈ onesL l := by rw [← h]; exact List.mem_map_of_mem hx
 obtain ⟨y, hy, e⟩ := List.mem_map.1 this
 rw [← e]
 exact ⟨fun z hz => by rw [List.mem_singleton.1 hz]; exact hs y hy, by simp⟩
set_option maxHeartbeats 4000000 in
theorem listEBig_ref (v : Value) (l : List Rl) (hl : l.length ≤ 500) (hs : BigQ l) (w : World) (h : HoldQ w v l) : Calls Tryz.prog 32 #[v] w (TwoP (listE l) w) := by
 have O := ones_ref v l (by omega) w h
 have AE : Hid (∀ v' L W, fsts L = onesL l → HoldGs W v' L → Calls Tryz.prog 27 #[v'] W (TwoP (listE l) W)) := Lib.hid (fun v' L W h1 h2 => by
   have hlen : L.length = l.length := by have := congrArg List.length h1; simpa [fsts, onesL] using this
   have := allEBig_ref v' L (by omega) (onesBig h1 hs) W h2
   rw [h1, ones_all] at this
   exact this)
 have HP : Hid (∀ w', Below w.heap.size w w' → TwoP (listE l) w (.returned (.tuple #[.string (bsT (listE l).1), .int .i64 (listE l).2])) w') := Lib.hid (fun w' hb => ⟨rfl, hb⟩)
 unfold TwoP at AE
 obtain ⟨a, c, b, o, rfl, -⟩ := h.parts
 generalize (listE l).2 = k2 at *
 generalize bsT (listE l).1 = S1 at *
 generalize l.length = n at *
 clear h hs hl
 go_enter Tryz.func32, Tryz.ntmps32
 go_wp2_with (first
   | (go_at_call 76; (with_reducible refine O.mono ?_); rintro e w1 ⟨⟨a1, c1, L, rfl, h1, h2⟩, hb⟩; have HB1 := Lib.hid hb; have A1 := AE.out _ L w1 h1 h2.holds; clear hb h1 h2 O)
   | (go_at_call 27; (with_reducible refine A1.mono ?_); rintro e w2 ⟨rfl, hb⟩; have HB2 := Lib.hid (HB1.out.trans (hb.mono HB1.out.size)); clear hb))
 go_ret2
 exact HP.out _ HB2.out
end Go.Proofs.YtnnagboeimeiiaaGreatDoor
