import Derived.Test.YtnnagboeimeiiaaGreatDoorWUAIns
import Derived.Deep.RegionHeld3
import Derived.RangeFuncBox
import Derived.IntWalk
import Derived.BigRegion
namespace Go.Proofs.YtnnagboeimeiiaaGreatDoor
open Go.RowKit
def pathIsOUa (k : Bs) (x : OvUa) : Bool := decide (x.1 = k)
set_option maxRecDepth 100000 in
set_option maxHeartbeats 4000000 in
theorem findpO_anyUa (B1 B2 : Nat) (k : ByteArray) (x : OvUa) (W : World) (h1 : W.cell? ⟨B1, 0, none⟩ = some kyOUa) (h2 : W.cell? ⟨B2, 0, none⟩ = some (.string k)) :
   Calls Tryz.prog 112 #[aggOUa x, .pointer (some ⟨B1, 0, none⟩), .pointer (some ⟨B2, 0, none⟩)] W fun e w' => e = .returned (.bool (pathIsOUa k.data.toList x)) ∧ Below W.heap.size W w' := by
 obtain ⟨t, t1, t2, ⟨t3a, t3n, t3c⟩, ⟨t4a, t4n, t4c⟩, ⟨t5a, t5n, t5c⟩, ⟨t6a, t6n, t6c⟩, ⟨t7a, t7n, t7c⟩, ⟨t8a, t8n, t8c⟩⟩ := x
 unfold kyOUa at h1
 have hq := eqT (bsT t) k
 rw [bytesOf] at hq
 unfold pathIsOUa aggOUa
 dsimp only
 have PA := fun w => pathOf_anyUa (bsT t) t1 t2 t3a t3n t3c t4a t4n t4c t5a t5n t5c t6a t6n t6c t7a t7n t7c t8a t8n t8c w
 generalize decide (t = k.data.toList) = q at *
 generalize bsT t = X at *
 have l1 := World.block_lt_of_cell? W _ h1
 have l2 := World.block_lt_of_cell? W _ h2
 have B0 := (Below.refl W.heap.size W).alloc (Nat.le_refl _) (.cells #[.string X, .string t1, .int .i64 t2, .slice t3a t3n t3c, .slice t4a t4n t4c, .slice t5a t5n t5c, .slice t6a t6n t6c, .slice t7a t7n t7c, .slice t8a t8n t8c] 43)
 obtain ⟨x0, x1, x2, x3, x4, x5, x6, x7, x8⟩ := boxV9Ua W (.string X) (.string t1) (.int .i64 t2) (.slice t3a t3n t3c) (.slice t4a t4n t4c) (.slice t5a t5n t5c) (.slice t6a t6n t6c) (.slice t7a t7n t7c) (.slice t8a t8n t8c) 43
 have k1 := (B0.cell l1).trans h1
 have k2 := (B0.cell l2).trans h2
 have hs := And.intro x0 (And.intro x1 (And.intro x2 (And.intro x3 (And.intro x4 (And.intro x5 (And.intro x6 (And.intro x7 (And.intro x8 (And.intro k1 (And.intro k2 B0))))))))))
 clear x0 x1 x2 x3 x4 x5 x6 x7 x8 k1 k2
 go_enter Tryz.func112, Tryz.ntmps112
 go_wp2
 generalize W.alloc (.cells #[.string X, .string t1, .int .i64 t2, .slice t3a t3n t3c, .slice t4a t4n t4c, .slice t5a t5n t5c, .slice t6a t6n t6c, .slice t7a t7n t7c, .slice t8a t8n t8c] 43) = W2 at *
 obtain ⟨x0, x1, x2, x3, x4, x5, x6, x7, x8, k1, k2, hB⟩ := hs
 have hs := And.intro x0 (And.intro x1 (And.intro x2 (And.intro x3 (And.intro x4 (And.intro x5 (And.intro x6 (And.intro x7 (And.intro x8 (And.intro k1 (And.intro k2 hB))))))))))
 clear B0 h1 h2
 have KQ := Lib.hid (atK W [(⟨W.heap.size, 0, none⟩, .string X), (⟨W.heap.size, 1, none⟩, .string t1), (⟨W.heap.size, 2, none⟩, .int .i64 t2), (⟨W.heap.size, 3, none⟩, .slice t3a t3n t3c), (⟨W.heap.size, 4, none⟩, .slice t4a t4n t4c), (⟨W.heap.size, 5, none⟩, .slice t5a t5n t5c), (⟨W.heap.size, 6, none⟩, .slice t6a t6n t6c), (⟨W.heap.size, 7, none⟩, .slice t7a t7n t7c), (⟨W.heap.size, 8, none⟩, .slice t8a t8n t8c), (⟨B1, 0, none⟩, .func (.func 36) #[] #[]), (⟨B2, 0, none⟩, .string k)])
 have BE := fun (V : World) (h : V.cell? ⟨W.heap.size, 0, none⟩ = some (.string X) ∧ V.cell? ⟨W.heap.size, 1, none⟩ = some (.string t1) ∧ V.cell? ⟨W.heap.size, 2, none⟩ = some (.int .i64 t2) ∧ V.cell? ⟨W.heap.size, 3, none⟩ = some (.slice t3a t3n t3c) ∧ V.cell? ⟨W.heap.size, 4, none⟩ = some (.slice t4a t4n t4c) ∧ V.cell? ⟨W.heap.size, 5, none⟩ = some (.slice t5a t5n t5c) ∧ V.cell? ⟨W.heap.size, 6, none⟩ = some (.slice t6a t6n t6c) ∧ V.cell? ⟨W.heap.size, 7, none⟩ = some (.slice t7a t7n t7c) ∧ V.cell? ⟨W.heap.size, 8, none⟩ = some (.slice t8a t8n t8c) ∧ V.cell? ⟨B1, 0, none⟩ = some (.func (.func 36) #[] #[]) ∧ V.cell? ⟨B2, 0, none⟩ = some (.string k) ∧ Below W.heap.size W V) => AtF.be (w := W) (l := [(⟨W.heap.size, 0, none⟩, .string X), (⟨W.heap.size, 1, none⟩, .string t1), (⟨W.heap.size, 2, none⟩, .int .i64 t2), (⟨W.heap.size, 3, none⟩, .slice t3a t3n t3c), (⟨W.heap.size, 4, none⟩, .slice t4a t4n t4c), (⟨W.heap.size, 5, none⟩, .slice t5a t5n t5c), (⟨W.heap.size, 6, none⟩, .slice t6a t6n t6c), (⟨W.heap.size, 7, none⟩, .slice t7a t7n t7c), (⟨W.heap.size, 8, none⟩, .slice t8a t8n t8c), (⟨B1, 0, none⟩, .func (.func 36) #[] #[]), (⟨B2, 0, none⟩, .string k)]) h
 go_region_held3 (fun V => V.cell? ⟨W.heap.size, 0, none⟩ = some (.string X) ∧ V.cell? ⟨W.heap.size, 1, none⟩ = some (.string t1) ∧ V.cell? ⟨W.heap.size, 2, none⟩ = some (.int .i64 t2) ∧ V.cell? ⟨W.heap.size, 3, none⟩ = some (.slice t3a t3n t3c) ∧ V.cell? ⟨W.heap.size, 4, none⟩ = some (.slice t4a t4n t4c) ∧ V.cell? ⟨W.heap.size, 5, none⟩ = some (.slice t5a t5n t5c) ∧ V.cell? ⟨W.heap.size, 6, none⟩ = some (.slice t6a t6n t6c) ∧ V.cell? ⟨W.heap.size, 7, none⟩ = some (.slice t7a t7n t7c) ∧ V.cell? ⟨W.heap.size, 8, none⟩ = some (.slice t8a t8n t8c) ∧ V.cell? ⟨B1, 0, none⟩ = some (.func (.func 36) #[] #[]) ∧ V.cell? ⟨B2, 0, none⟩ = some (.string k) ∧ Below W.heap.size W V)
   (first | assumption | exact hs | exact KQ.out.dr _ hs | exact KQ.out.dr _ (by assumption) | exact KQ.out.on _ _ (by assumption) (by assumption) | exact KQ.out.al _ _ (by assumption) | exact KQ.out.ald _ _ (by assumption) | exact KQ.out.al _ _ hs | exact KQ.out.ald _ _ hs)
   ((go_at_call 36; (with_reducible refine (PA _).mono ?_); rintro e w3 ⟨rfl, hb⟩))
 all_goals
   rename_i hHeld
   have HW3 := Lib.hid (BE _ hHeld)
   clear hHeld
   go_wp2
   go_ret
   exact ⟨rfl, HW3.out⟩
set_option maxRecDepth 100000 in
set_option maxHeartbeats 4000000 in
theorem kfindO_anyUa (v : Value) (l : List OvUa) (hl : l.length ≤ 90000) (k : ByteArray) (w : World) (h : HoldOUa w v l) :
   Calls Tryz.prog 60 #[v, kyOUa, .string k] w fun e w' => e = .returned (.int .i64 (idxOUa l (pathIsOUa k.data.toList))) ∧ Below w.heap.size w w' := by
 have B2 := ((Below.refl w.heap.size w).alloc (Nat.le_refl _) (.cells #[kyOUa] 66)).alloc (by simp) (.cells #[.string k] 9)
 have q1 := (Boxed.new w 66 kyOUa).alloc (.cells #[.string k] 9)
 have q2 := Boxed.new (w.alloc (.cells #[kyOUa] 66)) 9 (.string k)
 rw [World.size_alloc] at q2
 have I := idxO_anyUa 112 #[.pointer (some ⟨w.heap.size, 0, none⟩), .pointer (some ⟨w.heap.size + 1, 0, none⟩)] (enters_of Tryz.func112 (by kernel_rfl) rfl) (pathIsOUa k.data.toList) v l hl _ (HoldV.on h B2)
   (fun W x hb => findpO_anyUa _ _ k x W ((hb.cell q1.lt).trans q1.cell) ((hb.cell q2.lt).trans q2.cell))
 have HB2 := Lib.hid B2
 obtain ⟨a, c, rfl⟩ : ∃ a c, v = .slice a l.length c := by obtain ⟨a, c, b, o, e, _⟩ := h.parts; exact ⟨a, c, e⟩
 clear B2 q1 q2 h
 unfold kyOUa at I ⊢
 generalize idxOUa l (pathIsOUa k.data.toList) = z at *
 generalize l.length = n at *
 go_enter Tryz.func60, Tryz.ntmps60
 go_wp2_with (go_at_call 109; (with_reducible refine I.mono ?_); rintro e w1 ⟨rfl, hb⟩; have HB := Lib.hid (HB2.out.trans (hb.mono HB2.out.size)); clear hb)
 go_ret
 exact ⟨rfl, HB.out⟩
theorem findO_anyUa (v : Value) (l : List OvUa) (hl : l.length ≤ 90000) (k : ByteArray) (w : World) (h : HoldOUa w v l) :
   Calls Tryz.prog 24 #[v, .string k] w fun e w' => e = .returned (.int .i64 (idxOUa l (pathIsOUa k.data.toList))) ∧ Below w.heap.size w w' := by
 have I := kfindO_anyUa v l hl k w h
 unfold kyOUa at I
 obtain ⟨a, c, rfl⟩ : ∃ a c, v = .slice a l.length c := by obtain ⟨a, c, b, o, e, _⟩ := h.parts; exact ⟨a, c, e⟩
 generalize idxOUa l (pathIsOUa k.data.toList) = z at *
 clear h hl
 generalize l.length = n at *
 go_enter Tryz.func24, Tryz.ntmps24
 go_wp2_with (go_at_call 60; (with_reducible refine I.mono ?_); rintro e w1 ⟨rfl, hb⟩; have HB := Lib.hid hb; clear hb)
 go_ret
 exact ⟨rfl, HB.out⟩
set_option maxRecDepth 100000 in
set_option maxHeartbeats 4000000 in
theorem findO_refUa (v : Value) (l : List OvUa) (hl : l.length ≤ 90000) (K : ByteArray) (w : World) (h : HoldOUa w v l) :
   Calls Tryz.prog 25 #[v, .string K] w fun e w' => e = .returned (.int .i64 (idxOUa l (pathIsOUa K.data.toList))) ∧ w = w' := by
 obtain ⟨a, c, b, o, rfl, hc, ha, hcell⟩ := h.parts
 have HC := Lib.hid hcell
 obtain ⟨p, hp⟩ : ∃ p, pathIsOUa K.data.toList = p := ⟨_, rfl⟩
 have HPD : Hid (∀ x : OvUa, p x = decide (x.1 = K.data.toList)) := Lib.hid (fun x => by rw [← hp]; rfl)
 obtain ⟨Z, HZ⟩ : ∃ Z, Hid (idxOUa l p = Z) := ⟨_, rfl⟩
 rw [hp, HZ.out]
 obtain ⟨n, hN⟩ : ∃ n, l.length = n := ⟨_, rfl⟩
 rw [hN] at hc ha hl ⊢
 have HN := Lib.hid hN
 clear hcell hN h hp
 go_enter Tryz.func25, Tryz.ntmps25
 go_wp2
 go_loop [5] (fun i => ∃ k : Nat, k ≤ n ∧ i = .int .i64 k ∧ Hid (∀ (j : Nat) y, j < k → l[j]? = some y → p y = false)) (fun i => n - (intOf i).toNat)
 case atStart => exact ⟨0, by omega, rfl, Lib.hid (fun j y hj => by omega)⟩
 case round =>
   obtain ⟨k, hk, rfl, H⟩ := hrel
   by_cases hlt : k < n
   · obtain ⟨rfl, hbw⟩ := ha (by omega)
     obtain ⟨⟨t, t1, t2, ⟨t3a, t3n, t3c⟩, ⟨t4a, t4n, t4c⟩, ⟨t5a, t5n, t5c⟩, ⟨t6a, t6n, t6c⟩, ⟨t7a, t7n, t7c⟩, ⟨t8a, t8n, t8c⟩⟩, hx⟩ : ∃ x, l[k]? = some x := ⟨_, List.getElem?_eq_getElem (by rw [HN.out]; exact hlt)⟩
     obtain ⟨c0, -, -, -, -, -, -, -, -⟩ := HC.out k _ hx
     dsimp only at c0
     have HX := Lib.hid hx
     have q0 := eqT (bsT t) K
     rw [bytesOf] at q0
     clear hx
     cases hq : p (t, t1, t2, (t3a, t3n, t3c), (t4a, t4n, t4c), (t5a, t5n, t5c), (t6a, t6n, t6c), (t7a, t7n, t7c), (t8a, t8n, t8c))
     · have HK : Hid (∀ (j : Nat) y, j < k + 1 → l[j]? = some y → p y = false) := Lib.hid (fun j y hj hy => by
         by_cases e : j = k
         · subst e; rw [HX.out] at hy; cases hy; exact hq
         · exact H.out j y (by omega) hy)
       rw [HPD.out] at hq
       dsimp only at hq
       rw [hq] at q0
       clear hq H
       generalize bsT t = X at *
       go_wp2
       go_round
       case rel => exact ⟨k + 1, by omega, by go_num, HK⟩
       case measure => simp [intOf]; omega
     · have HF : Hid ((k : Int) = Z) := Lib.hid (by rw [← HZ.out, idxOUa, idxO_hitUa HX.out hq H.out])
       rw [HPD.out] at hq
       dsimp only at hq
       rw [hq] at q0
       clear hq H
       generalize bsT t = X at *
       go_wp2
       go_ret
       exact ⟨reti HF.out, rfl⟩
   · obtain rfl : k = n := by omega
     have HF : Hid ((-1 : Int) = Z) := Lib.hid (by rw [← HZ.out, idxOUa, idxO_missUa (fun j y hy => H.out j y (by have := (List.getElem?_eq_some_iff.1 hy).1; rw [HN.out] at this; exact this) hy)])
     clear hlt H
     go_wp2
     go_ret
     exact ⟨reti HF.out, rfl⟩
end Go.Proofs.YtnnagboeimeiiaaGreatDoor
namespace Go.Proofs.YtnnagboeimeiiaaGreatDoor
open Go.RowKit
def offOUa (p : Bs) (x : OvUa) : Bool := !decide (x.1 = p)
def dropOUa (l : List OvUa) (p : Bs) : List OvUa := l.filter (offOUa p)
theorem dropO_keepUa {l : List OvUa} {k : Nat} {x : OvUa} {p : Bs} (hx : l[k]? = some x) (h : ¬ x.1 = p) : dropOUa (l.take (k + 1)) p = dropOUa (l.take k) p ++ [x] := by
 unfold dropOUa
 rw [List.take_add_one, hx, List.filter_append]
 simp [offOUa, h]
theorem dropO_skipUa {l : List OvUa} {k : Nat} {x : OvUa} {p : Bs} (hx : l[k]? = some x) (h : x.1 = p) : dropOUa (l.take (k + 1)) p = dropOUa (l.take k) p := by
 unfold dropOUa
 rw [List.take_add_one, hx, List.filter_append]
 simp [offOUa, h]
theorem dropO_lenUa (l : List OvUa) (p : Bs) : (dropOUa l p).length ≤ l.length := List.length_filter_le _ _
def DropPostOUa (l : List OvUa) (p : Bs) (w : World) (e : Ending) (w' : World) : Prop := ∃ v, e = .returned v ∧ OwnOUa w' w.heap.size v (dropOUa l p) ∧ Below w.heap.size w w'
set_option maxRecDepth 100000 in
set_option maxHeartbeats 4000000 in
theorem dropO_refUa (v : Value) (l : List OvUa) (hl : l.length ≤ 90000) (p : ByteArray) (w : World) (h : HoldOUa w v l) : Calls Tryz.prog 23 #[v, .string p] w (DropPostOUa l p.data.toList w) := by
 obtain ⟨a, c, b, o, rfl, hc, ha, hcell⟩ := h.parts
 have HC := Lib.hid hcell
 obtain ⟨i0, hi, hz0, hz1, hz2'⟩ := info_parts infoOUa
 obtain ⟨n, hN⟩ : ∃ n, l.length = n := ⟨_, rfl⟩
 rw [hN] at hc ha hl ⊢
 have HN := Lib.hid hN
 clear hcell hN h
 go_enter Tryz.func23, Tryz.ntmps23
 go_wp2
 go_loopw [5, 6] (fun u i wr => ∃ k : Nat, k ≤ n ∧ i = .int .i64 k ∧ Hid (OwnOUa wr w.heap.size u (dropOUa (l.take k) p.data.toList)) ∧ Hid (Below w.heap.size w wr)) (fun _ i _ => n - (intOf i).toNat)
 case atStart => exact ⟨0, by omega, rfl, Lib.hid (OwnV.nil _ _ _ _), Lib.hid (Below.refl _ _)⟩
 case round =>
   obtain ⟨k, hk, rfl, HO, HB⟩ := hrel
   have hsz := HB.out.size
   by_cases hlt : k < n
   · obtain ⟨rfl, hbw⟩ := ha (by omega)
     obtain ⟨⟨q0, q1, q2, ⟨q3a, q3n, q3c⟩, ⟨q4a, q4n, q4c⟩, ⟨q5a, q5n, q5c⟩, ⟨q6a, q6n, q6c⟩, ⟨q7a, q7n, q7c⟩, ⟨q8a, q8n, q8c⟩⟩, hx⟩ : ∃ x, l[k]? = some x := ⟨_, List.getElem?_eq_getElem (by rw [HN.out]; exact hlt)⟩
     obtain ⟨c0, c1, c2, c3, c4, c5, c6, c7, c8⟩ := HC.out k _ hx
     dsimp only at c0 c1 c2 c3 c4 c5 c6 c7 c8
     rw [← HB.out.cell (p := ⟨b, o + k * 9, none⟩) hbw] at c0
     rw [← HB.out.cell (p := ⟨b, o + k * 9 + 1, none⟩) hbw] at c1
     rw [← HB.out.cell (p := ⟨b, o + k * 9 + 2, none⟩) hbw] at c2
     rw [← HB.out.cell (p := ⟨b, o + k * 9 + 3, none⟩) hbw] at c3
     rw [← HB.out.cell (p := ⟨b, o + k * 9 + 4, none⟩) hbw] at c4
     rw [← HB.out.cell (p := ⟨b, o + k * 9 + 5, none⟩) hbw] at c5
     rw [← HB.out.cell (p := ⟨b, o + k * 9 + 6, none⟩) hbw] at c6
     rw [← HB.out.cell (p := ⟨b, o + k * 9 + 7, none⟩) hbw] at c7
     rw [← HB.out.cell (p := ⟨b, o + k * 9 + 8, none⟩) hbw] at c8
     have hlen : (dropOUa (l.take k) p.data.toList).length ≤ 90000 := Nat.le_trans (dropO_lenUa _ _) (by rw [List.length_take]; omega)
     have hq := eqT (bsT q0) p
     rw [bytesOf] at hq
     by_cases he : q0 = p.data.toList
     · rw [decide_eq_true he] at hq
       have HK : Hid (dropOUa (l.take (k + 1)) p.data.toList = dropOUa (l.take k) p.data.toList) := Lib.hid (dropO_skipUa hx he)
       generalize bsT q0 = X at *
       clear he hx
       go_wp2
       go_roundw
       case rel => exact ⟨k + 1, by omega, by go_num, Lib.hid (by rw [HK.out]; exact HO.out), HB⟩
       case measure => simp [intOf]; omega
     · rw [decide_eq_false he] at hq
       have HK : Hid (dropOUa (l.take (k + 1)) p.data.toList = dropOUa (l.take k) p.data.toList ++ [(q0, q1, q2, (q3a, q3n, q3c), (q4a, q4n, q4c), (q5a, q5n, q5c), (q6a, q6n, q6c), (q7a, q7n, q7c), (q8a, q8n, q8c))]) := Lib.hid (dropO_keepUa hx he)
       have HX : Hid ((bsT q0).data.toList = q0) := Lib.hid (bytesOf _)
       generalize bsT q0 = X at *
       clear he hx
       go_wp2_with (first
         | (at_builtin; refine wpList_append_own _ rfl _ _ 22 rfl w.heap.size 43 i0 _ 9 184 Tryz.underlying22 hi hz0 hz1 hz2' rfl (by decide) _ _ _ rfl (World.ownsRow.alloc HO.out.2 _) ⟨wr.heap.size, 0, none⟩ 1 1 [.string X, .string q1, .int .i64 q2, .slice q3a q3n q3c, .slice q4a q4n q4c, .slice q5a q5n q5c, .slice q6a q6n q6c, .slice q7a q7n q7c, .slice q8a q8n q8c] rfl rfl (by intro j u hj; match j, hj with | 0, hj => simp at hj; subst hj; simp [Addr.add] | 1, hj => simp at hj; subst hj; simp [Addr.add] | 2, hj => simp at hj; subst hj; simp [Addr.add] | 3, hj => simp at hj; subst hj; simp [Addr.add] | 4, hj => simp at hj; subst hj; simp [Addr.add] | 5, hj => simp at hj; subst hj; simp [Addr.add] | 6, hj => simp at hj; subst hj; simp [Addr.add] | 7, hj => simp at hj; subst hj; simp [Addr.add] | 8, hj => simp at hj; subst hj; simp [Addr.add]) (by intro u hu; simp at hu; rcases hu with rfl | rfl | rfl | rfl | rfl | rfl | rfl | rfl | rfl <;> rfl) (by rw [List.length_map]; unfold maxLen; omega) (by rw [List.length_map]; omega) (by simp; omega) ?_))
       intro v' w3 hown' hgrow _
       have HO3 : Hid (OwnOUa w3 w.heap.size v' (dropOUa (l.take (k + 1)) p.data.toList)) := Lib.hid (by rw [HK.out]; exact OwnOUa.app (x := (q0, q1, q2, (q3a, q3n, q3c), (q4a, q4n, q4c), (q5a, q5n, q5c), (q6a, q6n, q6c), (q7a, q7n, q7c), (q8a, q8n, q8c))) HX.out (by first | exact hown' | (rw [List.length_map] at hown'; exact hown')))
       have HB3 : Hid (Below w.heap.size w w3) := Lib.hid (OwnV.below HB.out HO.out hgrow (Nat.le_refl _) (by omega))
       clear hown' hgrow
       go_wp2
       go_roundw
       case rel => exact ⟨k + 1, by omega, by go_num, HO3, HB3⟩
       case measure => simp [intOf]; omega
   · obtain rfl : k = n := by omega
     have HF : Hid (l.take k = l) := Lib.hid (by rw [← HN.out, List.take_length])
     rw [HF.out] at HO
     clear hlt
     go_wp2
     go_ret
     exact ⟨_, rfl, HO.out, HB.out⟩
set_option maxRecDepth 100000 in
set_option maxHeartbeats 4000000 in
theorem kdropO_anyUa (v : Value) (l : List OvUa) (hl : l.length ≤ 90000) (p : ByteArray) (w : World) (h : HoldOUa w v l) : Calls Tryz.prog 59 #[v, kyOUa, .string p] w (DropPostOUa l p.data.toList w) := by
 obtain ⟨a, c, b, o, rfl, hc, ha, hcell⟩ := h.parts
 have HC := Lib.hid hcell
 obtain ⟨i0, hi, hz0, hz1, hz2'⟩ := info_parts infoOUa
 have PA := fun X p1 p2 p3a p3n p3c p4a p4n p4c p5a p5n p5c p6a p6n p6c p7a p7n p7c p8a p8n p8c w => pathOf_anyUa X p1 p2 p3a p3n p3c p4a p4n p4c p5a p5n p5c p6a p6n p6c p7a p7n p7c p8a p8n p8c w
 obtain ⟨n, hN⟩ : ∃ n, l.length = n := ⟨_, rfl⟩
 rw [hN] at hc ha hl ⊢
 have HN := Lib.hid hN
 clear hcell hN h
 unfold kyOUa
 go_enter Tryz.func59, Tryz.ntmps59
 go_wp2
 go_loopw [7, 12] (fun u i wr => ∃ k : Nat, k ≤ n ∧ i = .int .i64 k ∧ Hid (OwnOUa wr w.heap.size u (dropOUa (l.take k) p.data.toList)) ∧ Hid (Below w.heap.size w wr)) (fun _ i _ => n - (intOf i).toNat)
 case atStart => exact ⟨0, by omega, rfl, Lib.hid (OwnV.nil _ _ _ _), Lib.hid (Below.refl _ _)⟩
 case round =>
   obtain ⟨k, hk, rfl, HO, HB⟩ := hrel
   have hsz := HB.out.size
   by_cases hlt : k < n
   · obtain ⟨rfl, hbw⟩ := ha (by omega)
     obtain ⟨⟨q0, q1, q2, ⟨q3a, q3n, q3c⟩, ⟨q4a, q4n, q4c⟩, ⟨q5a, q5n, q5c⟩, ⟨q6a, q6n, q6c⟩, ⟨q7a, q7n, q7c⟩, ⟨q8a, q8n, q8c⟩⟩, hx⟩ : ∃ x, l[k]? = some x := ⟨_, List.getElem?_eq_getElem (by rw [HN.out]; exact hlt)⟩
     obtain ⟨c0, c1, c2, c3, c4, c5, c6, c7, c8⟩ := HC.out k _ hx
     dsimp only at c0 c1 c2 c3 c4 c5 c6 c7 c8
     rw [← HB.out.cell (p := ⟨b, o + k * 9, none⟩) hbw] at c0
     rw [← HB.out.cell (p := ⟨b, o + k * 9 + 1, none⟩) hbw] at c1
     rw [← HB.out.cell (p := ⟨b, o + k * 9 + 2, none⟩) hbw] at c2
     rw [← HB.out.cell (p := ⟨b, o + k * 9 + 3, none⟩) hbw] at c3
     rw [← HB.out.cell (p := ⟨b, o + k * 9 + 4, none⟩) hbw] at c4
     rw [← HB.out.cell (p := ⟨b, o + k * 9 + 5, none⟩) hbw] at c5
     rw [← HB.out.cell (p := ⟨b, o + k * 9 + 6, none⟩) hbw] at c6
     rw [← HB.out.cell (p := ⟨b, o + k * 9 + 7, none⟩) hbw] at c7
     rw [← HB.out.cell (p := ⟨b, o + k * 9 + 8, none⟩) hbw] at c8
     have hlen : (dropOUa (l.take k) p.data.toList).length ≤ 90000 := Nat.le_trans (dropO_lenUa _ _) (by rw [List.length_take]; omega)
     have hq := eqT (bsT q0) p
     rw [bytesOf] at hq
     have HK := Lib.hid (And.intro (fun h => dropO_skipUa (p := p.data.toList) hx h) (fun h => dropO_keepUa (p := p.data.toList) hx h))
     have HX : Hid ((bsT q0).data.toList = q0) := Lib.hid (bytesOf _)
     generalize bsT q0 = X at *
     have HXB := Lib.hid (fun W (hb : Below (wr.alloc (.cells #[.string X, .string q1, .int .i64 q2, .slice q3a q3n q3c, .slice q4a q4n q4c, .slice q5a q5n q5c, .slice q6a q6n q6c, .slice q7a q7n q7c, .slice q8a q8n q8c] 43)).heap.size (wr.alloc (.cells #[.string X, .string q1, .int .i64 q2, .slice q3a q3n q3c, .slice q4a q4n q4c, .slice q5a q5n q5c, .slice q6a q6n q6c, .slice q7a q7n q7c, .slice q8a q8n q8c] 43)) W) => box9_onUa hb)
     have HB1 := Lib.hid ((Below.refl wr.heap.size wr).alloc (Nat.le_refl _) (.cells #[.string X, .string q1, .int .i64 q2, .slice q3a q3n q3c, .slice q4a q4n q4c, .slice q5a q5n q5c, .slice q6a q6n q6c, .slice q7a q7n q7c, .slice q8a q8n q8c] 43))
     clear hx
     by_cases he : q0 = p.data.toList
     · rw [decide_eq_true he] at hq
       have HKK := Lib.hid (HK.out.1 he)
       clear he HK
       go_wp2_with (go_at_call 36; refine (PA _ _ _ _ _ _ _ _ _ _ _ _ _ _ _ _ _ _ _ _ _ _).mono ?_; rintro e w3 ⟨rfl, hb⟩; obtain ⟨d0, d1, d2, d3, d4, d5, d6, d7, d8⟩ := HXB.out _ hb; have HG := Lib.hid (HB1.out.trans (hb.mono HB1.out.size)); clear hb)
       go_roundw
       case rel => exact ⟨k + 1, by omega, by go_num, Lib.hid (by rw [HKK.out]; exact OwnV.on HO.out HG.out), Lib.hid (HB.out.trans (HG.out.mono hsz))⟩
       case measure => simp [intOf]; omega
     · rw [decide_eq_false he] at hq
       have HKK := Lib.hid (HK.out.2 he)
       clear he HK
       go_wp2_with (first
         | (go_at_call 36; refine (PA _ _ _ _ _ _ _ _ _ _ _ _ _ _ _ _ _ _ _ _ _ _).mono ?_; rintro e w3 ⟨rfl, hb⟩; obtain ⟨d0, d1, d2, d3, d4, d5, d6, d7, d8⟩ := HXB.out _ hb; have HG := Lib.hid (HB1.out.trans (hb.mono HB1.out.size)); have HO2 : Hid (OwnOUa w3 w.heap.size _ (dropOUa (l.take k) p.data.toList)) := Lib.hid (OwnV.on HO.out HG.out); have HB2 := Lib.hid (HB.out.trans (HG.out.mono hsz)); have hsz3 := HB2.out.size; clear hb)
         | (at_builtin; refine wpList_append_own _ rfl _ _ 22 rfl w.heap.size 43 i0 _ 9 184 Tryz.underlying22 hi hz0 hz1 hz2' rfl (by decide) _ _ _ rfl (World.ownsRow.alloc HO2.out.2 _) ⟨w3.heap.size, 0, none⟩ 1 1 [.string X, .string q1, .int .i64 q2, .slice q3a q3n q3c, .slice q4a q4n q4c, .slice q5a q5n q5c, .slice q6a q6n q6c, .slice q7a q7n q7c, .slice q8a q8n q8c] rfl rfl (by intro j u hj; match j, hj with | 0, hj => simp at hj; subst hj; simp [Addr.add] | 1, hj => simp at hj; subst hj; simp [Addr.add] | 2, hj => simp at hj; subst hj; simp [Addr.add] | 3, hj => simp at hj; subst hj; simp [Addr.add] | 4, hj => simp at hj; subst hj; simp [Addr.add] | 5, hj => simp at hj; subst hj; simp [Addr.add] | 6, hj => simp at hj; subst hj; simp [Addr.add] | 7, hj => simp at hj; subst hj; simp [Addr.add] | 8, hj => simp at hj; subst hj; simp [Addr.add]) (by intro u hu; simp at hu; rcases hu with rfl | rfl | rfl | rfl | rfl | rfl | rfl | rfl | rfl <;> rfl) (by rw [List.length_map]; unfold maxLen; omega) (by rw [List.length_map]; omega) (by simp; omega) ?_))
       intro v' w4 hown' hgrow _
       have HO3 : Hid (OwnOUa w4 w.heap.size v' (dropOUa (l.take (k + 1)) p.data.toList)) := Lib.hid (by rw [HKK.out]; exact OwnOUa.app (x := (q0, q1, q2, (q3a, q3n, q3c), (q4a, q4n, q4c), (q5a, q5n, q5c), (q6a, q6n, q6c), (q7a, q7n, q7c), (q8a, q8n, q8c))) HX.out (by first | exact hown' | (rw [List.length_map] at hown'; exact hown')))
       have HB3 : Hid (Below w.heap.size w w4) := Lib.hid (OwnV.below HB2.out HO2.out hgrow (Nat.le_refl _) (by omega))
       clear hown' hgrow
       go_wp2
       go_roundw
       case rel => exact ⟨k + 1, by omega, by go_num, HO3, HB3⟩
       case measure => simp [intOf]; omega
   · obtain rfl : k = n := by omega
     have HF : Hid (l.take k = l) := Lib.hid (by rw [← HN.out, List.take_length])
     rw [HF.out] at HO
     clear hlt
     go_wp2
     go_ret
     exact ⟨_, rfl, HO.out, HB.out⟩
set_option maxRecDepth 100000 in
set_option maxHeartbeats 4000000 in
theorem dropO_anyUa (v : Value) (l : List OvUa) (hl : l.length ≤ 90000) (p : ByteArray) (w : World) (h : HoldOUa w v l) : Calls Tryz.prog 21 #[v, .string p] w (DropPostOUa l p.data.toList w) := by
 have I := kdropO_anyUa v l hl p w h
 have HP : Hid (∀ v w', OwnOUa w' w.heap.size v (dropOUa l p.data.toList) → Below w.heap.size w w' → DropPostOUa l p.data.toList w (.returned v) w') := Lib.hid (fun v w' h1 h2 => ⟨v, rfl, h1, h2⟩)
 obtain ⟨a, c, b, o, rfl, -, -, -⟩ := h.parts
 unfold kyOUa at I
 clear h hl
 generalize l.length = n at *
 go_enter Tryz.func21, Tryz.ntmps21
 go_wp2_with (go_at_call 59; refine I.mono ?_; rintro e w1 ⟨v1, rfl, h1, hb⟩; have HO := Lib.hid h1; have HB := Lib.hid hb; clear hb h1)
 go_ret
 exact HP.out _ _ HO.out HB.out
end Go.Proofs.YtnnagboeimeiiaaGreatDoor
