import Derived.Test.YtnnagboeimeiiaaGreatDoorWUADrop
import Derived.BigQuiet
namespace Go.Proofs.YtnnagboeimeiiaaGreatDoor
open Go.RowKit
def overOUa (p : Bs) (y : OvUa) : Bool := decide (p < y.1)
def cutPOUa (l : List OvUa) (p : Bs) : Nat := match l.findIdx? (overOUa p) with
 | some k => k
 | none => l.length
def putOUa (l : List OvUa) (x : OvUa) : List OvUa := match l.findIdx? (pathIsOUa x.1) with
 | some k => l.set k x
 | none => l.take (cutPOUa l x.1) ++ x :: l.drop (cutPOUa l x.1)
def PutPostOUa (l : List OvUa) (x : OvUa) (w : World) (e : Ending) (w' : World) : Prop := ∃ v, e = .returned v ∧ HoldOUa w' v (putOUa l x) ∧ Below w.heap.size w w'
theorem setO_atUa {l : List OvUa} {k : Nat} {x : OvUa} (h : k < l.length) : (l.set k x).take (k + 1) = (l.set k x).take k ++ [x] := by
 rw [List.take_add_one, List.getElem?_set_self h]; rfl
theorem setO_byUa {l : List OvUa} {k k0 : Nat} {x y : OvUa} (hy : l[k]? = some y) (h : k ≠ k0) : (l.set k0 x).take (k + 1) = (l.set k0 x).take k ++ [y] := by
 rw [List.take_add_one, List.getElem?_set_ne (Ne.symm h), hy]; rfl
set_option maxRecDepth 100000 in
set_option maxHeartbeats 8000000 in
theorem putO_ref_oldUa (v : Value) (l : List OvUa) (hl : l.length ≤ 90000) (x : OvUa) (w : World) (h : HoldOUa w v l) (k0 : Nat) (hk0 : l.findIdx? (pathIsOUa x.1) = some k0) : Calls Tryz.prog 22 #[v, aggOUa x] w (PutPostOUa l x w) := by
 have B1 := (Below.refl w.heap.size w).alloc (Nat.le_refl _) (.cells #[.string (bsT x.1), .string x.2.1, .int .i64 x.2.2.1, .slice x.2.2.2.1.1 x.2.2.2.1.2.1 x.2.2.2.1.2.2, .slice x.2.2.2.2.1.1 x.2.2.2.2.1.2.1 x.2.2.2.2.1.2.2, .slice x.2.2.2.2.2.1.1 x.2.2.2.2.2.1.2.1 x.2.2.2.2.2.1.2.2, .slice x.2.2.2.2.2.2.1.1 x.2.2.2.2.2.2.1.2.1 x.2.2.2.2.2.2.1.2.2, .slice x.2.2.2.2.2.2.2.1.1 x.2.2.2.2.2.2.2.1.2.1 x.2.2.2.2.2.2.2.1.2.2, .slice x.2.2.2.2.2.2.2.2.1 x.2.2.2.2.2.2.2.2.2.1 x.2.2.2.2.2.2.2.2.2.2] 43)
 have FA := findO_refUa v l hl (bsT x.1) _ (HoldV.on h B1)
 have hi0 : idxOUa l (pathIsOUa x.1) = (k0 : Int) := by unfold idxOUa; rw [hk0]
 have hP : putOUa l x = l.set k0 x := by unfold putOUa; rw [hk0]
 have hkl : k0 < l.length := (List.findIdx?_eq_some_iff_getElem.1 hk0).1
 rw [bytesOf, hi0] at FA
 have HP : Hid (∀ v w', HoldOUa w' v (l.set k0 x) → Below w.heap.size w w' → PutPostOUa l x w (.returned v) w') := Lib.hid (fun v w' h1 h2 => ⟨v, rfl, by rw [hP]; exact h1, h2⟩)
 have HX : Hid ((bsT x.1).data.toList = x.1) := Lib.hid (bytesOf _)
 have HXB := Lib.hid (boxV9Ua w (.string (bsT x.1)) (.string x.2.1) (.int .i64 x.2.2.1) (.slice x.2.2.2.1.1 x.2.2.2.1.2.1 x.2.2.2.1.2.2) (.slice x.2.2.2.2.1.1 x.2.2.2.2.1.2.1 x.2.2.2.2.1.2.2) (.slice x.2.2.2.2.2.1.1 x.2.2.2.2.2.1.2.1 x.2.2.2.2.2.1.2.2) (.slice x.2.2.2.2.2.2.1.1 x.2.2.2.2.2.2.1.2.1 x.2.2.2.2.2.2.1.2.2) (.slice x.2.2.2.2.2.2.2.1.1 x.2.2.2.2.2.2.2.1.2.1 x.2.2.2.2.2.2.2.1.2.2) (.slice x.2.2.2.2.2.2.2.2.1 x.2.2.2.2.2.2.2.2.2.1 x.2.2.2.2.2.2.2.2.2.2) 43)
 obtain ⟨a, c, b, o, rfl, hc, ha, hcell⟩ := h.parts
 have HC := Lib.hid hcell
 obtain ⟨i0, hi, hz0, hz1, hz2'⟩ := info_parts infoOUa
 obtain ⟨n, hN⟩ : ∃ n, l.length = n := ⟨_, rfl⟩
 have hlen : ∀ k, ((l.set k0 x).take k).length ≤ 90000 := fun k => by rw [List.length_take, List.length_set]; omega
 rw [hN] at hc ha hl FA hkl ⊢
 have HN := Lib.hid hN
 have HSA := Lib.hid (setO_atUa (l := l) (k := k0) (x := x) (by rw [hN]; exact hkl))
 have HSB := Lib.hid (fun (k : Nat) y (hy : l[k]? = some y) (e : k ≠ k0) => setO_byUa (x := x) hy e)
 have HB1 := Lib.hid B1
 unfold aggOUa
 generalize bsT x.1 = X at *
 clear hcell hN h B1 hi0 hP hk0
 go_enter Tryz.func22, Tryz.ntmps22
 go_wp2_with (go_at_call 25; refine FA.mono ?_; rintro e w1 ⟨rfl, rfl⟩)
 clear FA
 go_loopw [5, 7, 8] (fun u t i wr => ∃ k : Nat, k ≤ n ∧ i = .int .i64 k ∧ t = .bool true ∧ Hid (OwnOUa wr (w.heap.size + 1) u ((l.set k0 x).take k)) ∧ Hid (Below (w.heap.size + 1) (w.alloc (.cells #[.string X, .string x.2.1, .int .i64 x.2.2.1, .slice x.2.2.2.1.1 x.2.2.2.1.2.1 x.2.2.2.1.2.2, .slice x.2.2.2.2.1.1 x.2.2.2.2.1.2.1 x.2.2.2.2.1.2.2, .slice x.2.2.2.2.2.1.1 x.2.2.2.2.2.1.2.1 x.2.2.2.2.2.1.2.2, .slice x.2.2.2.2.2.2.1.1 x.2.2.2.2.2.2.1.2.1 x.2.2.2.2.2.2.1.2.2, .slice x.2.2.2.2.2.2.2.1.1 x.2.2.2.2.2.2.2.1.2.1 x.2.2.2.2.2.2.2.1.2.2, .slice x.2.2.2.2.2.2.2.2.1 x.2.2.2.2.2.2.2.2.2.1 x.2.2.2.2.2.2.2.2.2.2] 43)) wr)) (fun _ _ i _ => n - (intOf i).toNat)
 case atStart => exact ⟨0, by omega, rfl, rfl, Lib.hid (OwnV.nil _ _ _ _), Lib.hid (Below.refl _ _)⟩
 case round =>
   obtain ⟨k, hk, rfl, rfl, HO, HB⟩ := hrel
   have hsz := HB.out.size
   rw [World.size_alloc] at hsz
   have HBW : Hid (Below w.heap.size w wr) := Lib.hid (HB1.out.trans (HB.out.mono (by omega)))
   by_cases hlt : k < n
   · obtain ⟨rfl, hbw⟩ := ha (by omega)
     obtain ⟨⟨y0, y1, y2, ⟨y3a, y3n, y3c⟩, ⟨y4a, y4n, y4c⟩, ⟨y5a, y5n, y5c⟩, ⟨y6a, y6n, y6c⟩, ⟨y7a, y7n, y7c⟩, ⟨y8a, y8n, y8c⟩⟩, hy⟩ : ∃ y, l[k]? = some y := ⟨_, List.getElem?_eq_getElem (by rw [HN.out]; exact hlt)⟩
     obtain ⟨c0, c1, c2, c3, c4, c5, c6, c7, c8⟩ := HC.out k _ hy
     dsimp only at c0 c1 c2 c3 c4 c5 c6 c7 c8
     rw [← HBW.out.cell (p := ⟨b, o + k * 9, none⟩) hbw] at c0
     rw [← HBW.out.cell (p := ⟨b, o + k * 9 + 1, none⟩) hbw] at c1
     rw [← HBW.out.cell (p := ⟨b, o + k * 9 + 2, none⟩) hbw] at c2
     rw [← HBW.out.cell (p := ⟨b, o + k * 9 + 3, none⟩) hbw] at c3
     rw [← HBW.out.cell (p := ⟨b, o + k * 9 + 4, none⟩) hbw] at c4
     rw [← HBW.out.cell (p := ⟨b, o + k * 9 + 5, none⟩) hbw] at c5
     rw [← HBW.out.cell (p := ⟨b, o + k * 9 + 6, none⟩) hbw] at c6
     rw [← HBW.out.cell (p := ⟨b, o + k * 9 + 7, none⟩) hbw] at c7
     rw [← HBW.out.cell (p := ⟨b, o + k * 9 + 8, none⟩) hbw] at c8
     have q0 := (HB.out.cell (p := ⟨w.heap.size, 0, none⟩) (by simp)).trans HXB.out.1
     have q1 := (HB.out.cell (p := ⟨w.heap.size, 1, none⟩) (by simp)).trans HXB.out.2.1
     have q2 := (HB.out.cell (p := ⟨w.heap.size, 2, none⟩) (by simp)).trans HXB.out.2.2.1
     have q3 := (HB.out.cell (p := ⟨w.heap.size, 3, none⟩) (by simp)).trans HXB.out.2.2.2.1
     have q4 := (HB.out.cell (p := ⟨w.heap.size, 4, none⟩) (by simp)).trans HXB.out.2.2.2.2.1
     have q5 := (HB.out.cell (p := ⟨w.heap.size, 5, none⟩) (by simp)).trans HXB.out.2.2.2.2.2.1
     have q6 := (HB.out.cell (p := ⟨w.heap.size, 6, none⟩) (by simp)).trans HXB.out.2.2.2.2.2.2.1
     have q7 := (HB.out.cell (p := ⟨w.heap.size, 7, none⟩) (by simp)).trans HXB.out.2.2.2.2.2.2.2.1
     have q8 := (HB.out.cell (p := ⟨w.heap.size, 8, none⟩) (by simp)).trans HXB.out.2.2.2.2.2.2.2.2
     have hln := hlen k
     have HSK := Lib.hid (HSB.out k _ hy)
     have HYY : Hid ((bsT y0).data.toList = y0) := Lib.hid (bytesOf _)
     generalize bsT y0 = X' at *
     clear hy
     have t0 : (0 : Int) ≤ (k : Int) := by omega
     have t1 : (k : Int) < (n : Int) := by omega
     by_cases ek : k = k0
     · have HKK : Hid ((l.set k0 x).take (k + 1) = (l.set k0 x).take k ++ [x]) := Lib.hid (by rw [ek]; exact HSA.out)
       have HO1 := HO
       have HB2 := HB
       have hszV := HB2.out.size
       rw [World.size_alloc] at hszV
       clear HO HB
       obtain ⟨R, hR⟩ : ∃ R, (l.set k0 x).take k = R := ⟨_, rfl⟩
       rw [hR] at HO1 HKK hln
       clear hR
       have hke : ((k : Int) == (k0 : Int)) = true := by rw [ek]; simp
       go_wp2_with (first
         | (at_builtin; refine wpList_append_own _ rfl _ _ 22 rfl (w.heap.size + 1) 43 i0 _ 9 184 Tryz.underlying22 hi hz0 hz1 hz2' rfl (by decide) _ _ _ rfl (World.ownsRow.alloc HO1.out.2 _) ⟨wr.heap.size, 0, none⟩ 1 1 [.string X, .string x.2.1, .int .i64 x.2.2.1, .slice x.2.2.2.1.1 x.2.2.2.1.2.1 x.2.2.2.1.2.2, .slice x.2.2.2.2.1.1 x.2.2.2.2.1.2.1 x.2.2.2.2.1.2.2, .slice x.2.2.2.2.2.1.1 x.2.2.2.2.2.1.2.1 x.2.2.2.2.2.1.2.2, .slice x.2.2.2.2.2.2.1.1 x.2.2.2.2.2.2.1.2.1 x.2.2.2.2.2.2.1.2.2, .slice x.2.2.2.2.2.2.2.1.1 x.2.2.2.2.2.2.2.1.2.1 x.2.2.2.2.2.2.2.1.2.2, .slice x.2.2.2.2.2.2.2.2.1 x.2.2.2.2.2.2.2.2.2.1 x.2.2.2.2.2.2.2.2.2.2] rfl rfl (by intro j u hj; match j, hj with | 0, hj => simp at hj; subst hj; simp [Addr.add] | 1, hj => simp at hj; subst hj; simp [Addr.add] | 2, hj => simp at hj; subst hj; simp [Addr.add] | 3, hj => simp at hj; subst hj; simp [Addr.add] | 4, hj => simp at hj; subst hj; simp [Addr.add] | 5, hj => simp at hj; subst hj; simp [Addr.add] | 6, hj => simp at hj; subst hj; simp [Addr.add] | 7, hj => simp at hj; subst hj; simp [Addr.add] | 8, hj => simp at hj; subst hj; simp [Addr.add]) (by intro u hu; simp at hu; rcases hu with rfl | rfl | rfl | rfl | rfl | rfl | rfl | rfl | rfl <;> rfl) (by rw [List.length_map]; unfold maxLen; omega) (by rw [List.length_map]; omega) (by simp; omega) ?_))
       intro v' w3 hown' hgrow _
       have HO3 : Hid (OwnOUa w3 (w.heap.size + 1) v' ((l.set k0 x).take (k + 1))) := Lib.hid (by rw [HKK.out]; exact OwnOUa.app (x := x) HX.out (by first | exact hown' | (rw [List.length_map] at hown'; exact hown')))
       have HB3 : Hid (Below (w.heap.size + 1) (w.alloc (.cells #[.string X, .string x.2.1, .int .i64 x.2.2.1, .slice x.2.2.2.1.1 x.2.2.2.1.2.1 x.2.2.2.1.2.2, .slice x.2.2.2.2.1.1 x.2.2.2.2.1.2.1 x.2.2.2.2.1.2.2, .slice x.2.2.2.2.2.1.1 x.2.2.2.2.2.1.2.1 x.2.2.2.2.2.1.2.2, .slice x.2.2.2.2.2.2.1.1 x.2.2.2.2.2.2.1.2.1 x.2.2.2.2.2.2.1.2.2, .slice x.2.2.2.2.2.2.2.1.1 x.2.2.2.2.2.2.2.1.2.1 x.2.2.2.2.2.2.2.1.2.2, .slice x.2.2.2.2.2.2.2.2.1 x.2.2.2.2.2.2.2.2.2.1 x.2.2.2.2.2.2.2.2.2.2] 43)) w3) := Lib.hid (OwnV.below HB2.out HO1.out hgrow (Nat.le_refl _) (by omega))
       clear hown' hgrow
       go_wp2
       go_roundw
       case rel => exact ⟨k + 1, by omega, by go_num, rfl, HO3, HB3⟩
       case measure => simp [intOf]; omega
     · have HKK := Lib.hid (HSK.out ek)
       have hke : ((k : Int) == (k0 : Int)) = false := by rw [beq_eq_false_iff_ne]; omega
       go_wp2
       go_quiet (fail)
       have HO1 : Hid (OwnOUa (wr.drewN nq) (w.heap.size + 1) _ ((l.set k0 x).take k)) := Lib.hid (OwnV.on HO.out (belowQ (Below.refl _ _) nq))
       have HB2 : Hid (Below (w.heap.size + 1) (w.alloc (.cells #[.string X, .string x.2.1, .int .i64 x.2.2.1, .slice x.2.2.2.1.1 x.2.2.2.1.2.1 x.2.2.2.1.2.2, .slice x.2.2.2.2.1.1 x.2.2.2.2.1.2.1 x.2.2.2.2.1.2.2, .slice x.2.2.2.2.2.1.1 x.2.2.2.2.2.1.2.1 x.2.2.2.2.2.1.2.2, .slice x.2.2.2.2.2.2.1.1 x.2.2.2.2.2.2.1.2.1 x.2.2.2.2.2.2.1.2.2, .slice x.2.2.2.2.2.2.2.1.1 x.2.2.2.2.2.2.2.1.2.1 x.2.2.2.2.2.2.2.1.2.2, .slice x.2.2.2.2.2.2.2.2.1 x.2.2.2.2.2.2.2.2.2.1 x.2.2.2.2.2.2.2.2.2.2] 43)) (wr.drewN nq)) := Lib.hid (belowQ HB.out nq)
       rw [← World.cell?_drewN wr nq] at c0 c1 c2 c3 c4 c5 c6 c7 c8 q0 q1 q2 q3 q4 q5 q6 q7 q8
       have hszV := HB2.out.size
       rw [World.size_alloc] at hszV
       clear HO HB
       generalize wr.drewN nq = V at *
       obtain ⟨R, hR⟩ : ∃ R, (l.set k0 x).take k = R := ⟨_, rfl⟩
       rw [hR] at HO1 HKK hln
       clear hR
       go_wp2_with (first
         | (at_builtin; refine wpList_append_own _ rfl _ _ 22 rfl (w.heap.size + 1) 43 i0 _ 9 184 Tryz.underlying22 hi hz0 hz1 hz2' rfl (by decide) _ _ _ rfl (World.ownsRow.alloc HO1.out.2 _) ⟨V.heap.size, 0, none⟩ 1 1 [.string X', .string y1, .int .i64 y2, .slice y3a y3n y3c, .slice y4a y4n y4c, .slice y5a y5n y5c, .slice y6a y6n y6c, .slice y7a y7n y7c, .slice y8a y8n y8c] rfl rfl (by intro j u hj; match j, hj with | 0, hj => simp at hj; subst hj; simp [Addr.add] | 1, hj => simp at hj; subst hj; simp [Addr.add] | 2, hj => simp at hj; subst hj; simp [Addr.add] | 3, hj => simp at hj; subst hj; simp [Addr.add] | 4, hj => simp at hj; subst hj; simp [Addr.add] | 5, hj => simp at hj; subst hj; simp [Addr.add] | 6, hj => simp at hj; subst hj; simp [Addr.add] | 7, hj => simp at hj; subst hj; simp [Addr.add] | 8, hj => simp at hj; subst hj; simp [Addr.add]) (by intro u hu; simp at hu; rcases hu with rfl | rfl | rfl | rfl | rfl | rfl | rfl | rfl | rfl <;> rfl) (by rw [List.length_map]; unfold maxLen; omega) (by rw [List.length_map]; omega) (by simp; omega) ?_))
       intro v' w3 hown' hgrow _
       have HO3 : Hid (OwnOUa w3 (w.heap.size + 1) v' ((l.set k0 x).take (k + 1))) := Lib.hid (by rw [HKK.out]; exact OwnOUa.app (x := (y0, y1, y2, (y3a, y3n, y3c), (y4a, y4n, y4c), (y5a, y5n, y5c), (y6a, y6n, y6c), (y7a, y7n, y7c), (y8a, y8n, y8c))) HYY.out (by first | exact hown' | (rw [List.length_map] at hown'; exact hown')))
       have HB3 : Hid (Below (w.heap.size + 1) (w.alloc (.cells #[.string X, .string x.2.1, .int .i64 x.2.2.1, .slice x.2.2.2.1.1 x.2.2.2.1.2.1 x.2.2.2.1.2.2, .slice x.2.2.2.2.1.1 x.2.2.2.2.1.2.1 x.2.2.2.2.1.2.2, .slice x.2.2.2.2.2.1.1 x.2.2.2.2.2.1.2.1 x.2.2.2.2.2.1.2.2, .slice x.2.2.2.2.2.2.1.1 x.2.2.2.2.2.2.1.2.1 x.2.2.2.2.2.2.1.2.2, .slice x.2.2.2.2.2.2.2.1.1 x.2.2.2.2.2.2.2.1.2.1 x.2.2.2.2.2.2.2.1.2.2, .slice x.2.2.2.2.2.2.2.2.1 x.2.2.2.2.2.2.2.2.2.1 x.2.2.2.2.2.2.2.2.2.2] 43)) w3) := Lib.hid (OwnV.below HB2.out HO1.out hgrow (Nat.le_refl _) (by omega))
       clear hown' hgrow
       go_wp2
       go_roundw
       case rel => exact ⟨k + 1, by omega, by go_num, rfl, HO3, HB3⟩
       case measure => simp [intOf]; omega
   · obtain rfl : k = n := by omega
     have HF : Hid ((l.set k0 x).take k = l.set k0 x) := Lib.hid (List.take_of_length_le (by rw [List.length_set, HN.out]; exact Nat.le_refl _))
     rw [HF.out] at HO
     clear hlt
     go_wp2
     go_ret
     exact HP.out _ _ HO.out.holds HBW.out
theorem overO_ltUa {a b : Bs} (h : decide (a < b) = true) : decide (b < a) = false ∧ decide (b = a) = false :=
 have h := of_decide_eq_true h
 ⟨decide_eq_false (List.lt_asymm h), decide_eq_false (fun e => by subst e; exact absurd h (List.lt_irrefl _))⟩
theorem overO_noUa {a b : Bs} (h : decide (a < b) = false) (hn : b ≠ a) : decide (b < a) = true := decide_eq_true (by
 rcases List.le_iff_lt_or_eq.1 (List.not_lt.1 (of_decide_eq_false h)) with h | h
 · exact h
 · exact absurd h hn)
theorem noneO_pathUa {l : List OvUa} {x : OvUa} (h : l.findIdx? (pathIsOUa x.1) = none) {k : Nat} {y : OvUa} (hy : l[k]? = some y) : y.1 ≠ x.1 :=
 of_decide_eq_false (List.findIdx?_eq_none_iff.1 h y (List.mem_of_getElem? hy))
theorem putO_factsUa {l : List OvUa} {x : OvUa} (h : l.findIdx? (pathIsOUa x.1) = none) : ∃ m, m ≤ l.length ∧ (putOUa l x).length = l.length + 1 ∧
   (∀ (k : Nat) y, l[k]? = some y → k < m → decide (x.1 < y.1) = false ∧ (putOUa l x).take (k + 1) = (putOUa l x).take k ++ [y]) ∧
   (∀ y, l[m]? = some y → decide (x.1 < y.1) = true) ∧ (putOUa l x).take (m + 1) = (putOUa l x).take m ++ [x] ∧
   (∀ (k : Nat) y, l[k]? = some y → m ≤ k → (putOUa l x).take (k + 2) = (putOUa l x).take (k + 1) ++ [y]) := by
 have hP : putOUa l x = l.take (cutPOUa l x.1) ++ x :: l.drop (cutPOUa l x.1) := by unfold putOUa; rw [h]
 have hm : cutPOUa l x.1 ≤ l.length ∧ (∀ (k : Nat) y, l[k]? = some y → k < cutPOUa l x.1 → decide (x.1 < y.1) = false) ∧ (∀ y, l[cutPOUa l x.1]? = some y → decide (x.1 < y.1) = true) := by
   unfold cutPOUa
   cases hf : l.findIdx? (overOUa x.1) with
   | none =>
     refine ⟨Nat.le_refl _, fun k y hy _ => List.findIdx?_eq_none_iff.1 hf y (List.mem_of_getElem? hy), fun y hy => ?_⟩
     dsimp only at hy
     rw [List.getElem?_eq_none (Nat.le_refl _)] at hy; cases hy
   | some k0 =>
     obtain ⟨hk, h1, h2⟩ := List.findIdx?_eq_some_iff_getElem.1 hf
     refine ⟨Nat.le_of_lt hk, fun k y hy hlt => ?_, fun y hy => ?_⟩
     · have := h2 k hlt
       obtain ⟨hk', e⟩ := List.getElem?_eq_some_iff.1 hy
       rw [e] at this
       exact Bool.eq_false_iff.2 this
     · obtain ⟨hk', e⟩ := List.getElem?_eq_some_iff.1 hy
       have h1' := h1
       rw [e] at h1'
       exact h1'
 rw [hP]
 generalize cutPOUa l x.1 = m at *
 obtain ⟨hm1, hm2, hm3⟩ := hm
 have hlt : (l.take m).length = m := by rw [List.length_take]; omega
 refine ⟨m, hm1, by simp; omega, fun k y hy hk => ⟨hm2 k y hy hk, ?_⟩, hm3, ?_, fun k y hy hk => ?_⟩
 · rw [List.take_add_one, List.getElem?_append_left (by omega), List.getElem?_take, if_pos hk, hy]; rfl
 · rw [List.take_add_one, List.getElem?_append_right (by omega), hlt, Nat.sub_self]; rfl
 · rw [List.take_add_one (i := k + 1), List.getElem?_append_right (by omega), hlt, show k + 1 - m = (k - m) + 1 by omega, List.getElem?_cons_succ, List.getElem?_drop, show m + (k - m) = k by omega, hy]; rfl
set_option maxRecDepth 100000 in
set_option maxHeartbeats 8000000 in
theorem putO_ref_newUa (v : Value) (l : List OvUa) (hl : l.length ≤ 90000) (x : OvUa) (w : World) (h : HoldOUa w v l) (hk0 : l.findIdx? (pathIsOUa x.1) = none) : Calls Tryz.prog 22 #[v, aggOUa x] w (PutPostOUa l x w) := by
 have B1 := (Below.refl w.heap.size w).alloc (Nat.le_refl _) (.cells #[.string (bsT x.1), .string x.2.1, .int .i64 x.2.2.1, .slice x.2.2.2.1.1 x.2.2.2.1.2.1 x.2.2.2.1.2.2, .slice x.2.2.2.2.1.1 x.2.2.2.2.1.2.1 x.2.2.2.2.1.2.2, .slice x.2.2.2.2.2.1.1 x.2.2.2.2.2.1.2.1 x.2.2.2.2.2.1.2.2, .slice x.2.2.2.2.2.2.1.1 x.2.2.2.2.2.2.1.2.1 x.2.2.2.2.2.2.1.2.2, .slice x.2.2.2.2.2.2.2.1.1 x.2.2.2.2.2.2.2.1.2.1 x.2.2.2.2.2.2.2.1.2.2, .slice x.2.2.2.2.2.2.2.2.1 x.2.2.2.2.2.2.2.2.2.1 x.2.2.2.2.2.2.2.2.2.2] 43)
 have FA := findO_refUa v l hl (bsT x.1) _ (HoldV.on h B1)
 have hi0 : idxOUa l (pathIsOUa x.1) = -1 := by unfold idxOUa; rw [hk0]
 rw [bytesOf, hi0] at FA
 obtain ⟨m, hml, hPl, hF1, hF2, hF3, hF4⟩ := putO_factsUa hk0
 have HNP := Lib.hid (fun (k : Nat) (y : OvUa) (hy : l[k]? = some y) => noneO_pathUa hk0 hy)
 obtain ⟨P, hP⟩ : ∃ P, putOUa l x = P := ⟨_, rfl⟩
 rw [hP] at hPl hF1 hF3 hF4
 have HP : Hid (∀ v w', HoldOUa w' v P → Below w.heap.size w w' → PutPostOUa l x w (.returned v) w') := Lib.hid (fun v w' h1 h2 => ⟨v, rfl, by rw [hP]; exact h1, h2⟩)
 have HX : Hid ((bsT x.1).data.toList = x.1) := Lib.hid (bytesOf _)
 have HXB := Lib.hid (boxV9Ua w (.string (bsT x.1)) (.string x.2.1) (.int .i64 x.2.2.1) (.slice x.2.2.2.1.1 x.2.2.2.1.2.1 x.2.2.2.1.2.2) (.slice x.2.2.2.2.1.1 x.2.2.2.2.1.2.1 x.2.2.2.2.1.2.2) (.slice x.2.2.2.2.2.1.1 x.2.2.2.2.2.1.2.1 x.2.2.2.2.2.1.2.2) (.slice x.2.2.2.2.2.2.1.1 x.2.2.2.2.2.2.1.2.1 x.2.2.2.2.2.2.1.2.2) (.slice x.2.2.2.2.2.2.2.1.1 x.2.2.2.2.2.2.2.1.2.1 x.2.2.2.2.2.2.2.1.2.2) (.slice x.2.2.2.2.2.2.2.2.1 x.2.2.2.2.2.2.2.2.2.1 x.2.2.2.2.2.2.2.2.2.2) 43)
 obtain ⟨a, c, b, o, rfl, hc, ha, hcell⟩ := h.parts
 have HC := Lib.hid hcell
 obtain ⟨i0, hi, hz0, hz1, hz2'⟩ := info_parts infoOUa
 obtain ⟨n, hN⟩ : ∃ n, l.length = n := ⟨_, rfl⟩
 rw [hN] at hc ha hl FA hPl hml ⊢
 have hlen : ∀ k, (P.take k).length ≤ 90001 := fun k => by rw [List.length_take]; omega
 have HN := Lib.hid hN
 have HF1 := Lib.hid hF1
 have HF2 := Lib.hid hF2
 have HF3 := Lib.hid hF3
 have HF4 := Lib.hid hF4
 have HPL := Lib.hid hPl
 have HB1 := Lib.hid B1
 obtain ⟨X, hX⟩ : ∃ X, bsT x.1 = X := ⟨_, rfl⟩
 have HXX := Lib.hid hX
 rw [hX] at FA HX HXB HB1
 unfold aggOUa
 rw [hX]
 clear hcell hN h B1 hi0 hP hk0 hF1 hF2 hF3 hF4 hPl hX
 go_enter Tryz.func22, Tryz.ntmps22
 go_wp2_with (go_at_call 25; refine FA.mono ?_; rintro e w1 ⟨rfl, rfl⟩)
 clear FA
 go_loopw [5, 7, 8] (fun u t i wr => ∃ (k : Nat) (q : Bool), k ≤ n ∧ i = .int .i64 k ∧ t = .bool q ∧ Hid (q = decide (m < k)) ∧ Hid (OwnOUa wr (w.heap.size + 1) u (P.take (k + q.toNat))) ∧ Hid (Below (w.heap.size + 1) (w.alloc (.cells #[.string X, .string x.2.1, .int .i64 x.2.2.1, .slice x.2.2.2.1.1 x.2.2.2.1.2.1 x.2.2.2.1.2.2, .slice x.2.2.2.2.1.1 x.2.2.2.2.1.2.1 x.2.2.2.2.1.2.2, .slice x.2.2.2.2.2.1.1 x.2.2.2.2.2.1.2.1 x.2.2.2.2.2.1.2.2, .slice x.2.2.2.2.2.2.1.1 x.2.2.2.2.2.2.1.2.1 x.2.2.2.2.2.2.1.2.2, .slice x.2.2.2.2.2.2.2.1.1 x.2.2.2.2.2.2.2.1.2.1 x.2.2.2.2.2.2.2.1.2.2, .slice x.2.2.2.2.2.2.2.2.1 x.2.2.2.2.2.2.2.2.2.1 x.2.2.2.2.2.2.2.2.2.2] 43)) wr)) (fun _ _ i _ => n - (intOf i).toNat)
 case atStart => exact ⟨0, false, by omega, rfl, rfl, Lib.hid (by simp), Lib.hid (OwnV.nil _ _ _ _), Lib.hid (Below.refl _ _)⟩
 case round =>
   obtain ⟨k, q, hk, rfl, rfl, HQ, HO, HB⟩ := hrel
   have hsz := HB.out.size
   rw [World.size_alloc] at hsz
   have HBW : Hid (Below w.heap.size w wr) := Lib.hid (HB1.out.trans (HB.out.mono (by omega)))
   have q0 := (HB.out.cell (p := ⟨w.heap.size, 0, none⟩) (by simp)).trans HXB.out.1
   have q1 := (HB.out.cell (p := ⟨w.heap.size, 1, none⟩) (by simp)).trans HXB.out.2.1
   have q2 := (HB.out.cell (p := ⟨w.heap.size, 2, none⟩) (by simp)).trans HXB.out.2.2.1
   have q3 := (HB.out.cell (p := ⟨w.heap.size, 3, none⟩) (by simp)).trans HXB.out.2.2.2.1
   have q4 := (HB.out.cell (p := ⟨w.heap.size, 4, none⟩) (by simp)).trans HXB.out.2.2.2.2.1
   have q5 := (HB.out.cell (p := ⟨w.heap.size, 5, none⟩) (by simp)).trans HXB.out.2.2.2.2.2.1
   have q6 := (HB.out.cell (p := ⟨w.heap.size, 6, none⟩) (by simp)).trans HXB.out.2.2.2.2.2.2.1
   have q7 := (HB.out.cell (p := ⟨w.heap.size, 7, none⟩) (by simp)).trans HXB.out.2.2.2.2.2.2.2.1
   have q8 := (HB.out.cell (p := ⟨w.heap.size, 8, none⟩) (by simp)).trans HXB.out.2.2.2.2.2.2.2.2
   by_cases hlt : k < n
   · obtain ⟨rfl, hbw⟩ := ha (by omega)
     obtain ⟨⟨y0, y1, y2, ⟨y3a, y3n, y3c⟩, ⟨y4a, y4n, y4c⟩, ⟨y5a, y5n, y5c⟩, ⟨y6a, y6n, y6c⟩, ⟨y7a, y7n, y7c⟩, ⟨y8a, y8n, y8c⟩⟩, hy⟩ : ∃ y, l[k]? = some y := ⟨_, List.getElem?_eq_getElem (by rw [HN.out]; exact hlt)⟩
     obtain ⟨c0, c1, c2, c3, c4, c5, c6, c7, c8⟩ := HC.out k _ hy
     dsimp only at c0 c1 c2 c3 c4 c5 c6 c7 c8
     have HCW := Lib.hid (And.intro c0 (And.intro c1 (And.intro c2 (And.intro c3 (And.intro c4 (And.intro c5 (And.intro c6 (And.intro c7 c8))))))))
     rw [← HBW.out.cell (p := ⟨b, o + k * 9, none⟩) hbw] at c0
     rw [← HBW.out.cell (p := ⟨b, o + k * 9 + 1, none⟩) hbw] at c1
     rw [← HBW.out.cell (p := ⟨b, o + k * 9 + 2, none⟩) hbw] at c2
     rw [← HBW.out.cell (p := ⟨b, o + k * 9 + 3, none⟩) hbw] at c3
     rw [← HBW.out.cell (p := ⟨b, o + k * 9 + 4, none⟩) hbw] at c4
     rw [← HBW.out.cell (p := ⟨b, o + k * 9 + 5, none⟩) hbw] at c5
     rw [← HBW.out.cell (p := ⟨b, o + k * 9 + 6, none⟩) hbw] at c6
     rw [← HBW.out.cell (p := ⟨b, o + k * 9 + 7, none⟩) hbw] at c7
     rw [← HBW.out.cell (p := ⟨b, o + k * 9 + 8, none⟩) hbw] at c8
     have HYY : Hid ((bsT y0).data.toList = y0) := Lib.hid (bytesOf _)
     have hls := lessT (bsT y0) X
     rw [HX.out, bytesOf] at hls
     have heq := eqT (bsT y0) X
     rw [HX.out, bytesOf] at heq
     generalize bsT y0 = X' at *
     have HY := Lib.hid hy
     clear hy
     have t0 : (0 : Int) ≤ (k : Int) := by omega
     have t1 : (k : Int) < (n : Int) := by omega
     have hke : ((k : Int) == (-1 : Int)) = false := by rw [beq_eq_false_iff_ne]; omega
     cases q with
     | true =>
       have hmk : m < k := of_decide_eq_true HQ.out.symm
       have hln := hlen (k + 1)
       have HKK := Lib.hid (HF4.out k _ HY.out (Nat.le_of_lt hmk))
       have HQ2 : Hid (true = decide (m < k + 1)) := Lib.hid (decide_eq_true (by omega)).symm
       clear hls heq hmk
       go_wp2
       go_quiet (fail)
       have HO1 : Hid (OwnOUa (wr.drewN nq) (w.heap.size + 1) _ (P.take (k + 1))) := Lib.hid (OwnV.on HO.out (belowQ (Below.refl _ _) nq))
       have HB2 : Hid (Below (w.heap.size + 1) (w.alloc (.cells #[.string X, .string x.2.1, .int .i64 x.2.2.1, .slice x.2.2.2.1.1 x.2.2.2.1.2.1 x.2.2.2.1.2.2, .slice x.2.2.2.2.1.1 x.2.2.2.2.1.2.1 x.2.2.2.2.1.2.2, .slice x.2.2.2.2.2.1.1 x.2.2.2.2.2.1.2.1 x.2.2.2.2.2.1.2.2, .slice x.2.2.2.2.2.2.1.1 x.2.2.2.2.2.2.1.2.1 x.2.2.2.2.2.2.1.2.2, .slice x.2.2.2.2.2.2.2.1.1 x.2.2.2.2.2.2.2.1.2.1 x.2.2.2.2.2.2.2.1.2.2, .slice x.2.2.2.2.2.2.2.2.1 x.2.2.2.2.2.2.2.2.2.1 x.2.2.2.2.2.2.2.2.2.2] 43)) (wr.drewN nq)) := Lib.hid (belowQ HB.out nq)
       rw [← World.cell?_drewN wr nq] at c0 c1 c2 c3 c4 c5 c6 c7 c8 q0 q1 q2 q3 q4 q5 q6 q7 q8
       have hszV := HB2.out.size
       rw [World.size_alloc] at hszV
       clear HO HB
       generalize wr.drewN nq = V at *
       obtain ⟨R, hR⟩ : ∃ R, P.take (k + 1) = R := ⟨_, rfl⟩
       rw [hR] at HO1 HKK hln
       clear hR
       go_wp2_with (first
         | (at_builtin; refine wpList_append_own _ rfl _ _ 22 rfl (w.heap.size + 1) 43 i0 _ 9 184 Tryz.underlying22 hi hz0 hz1 hz2' rfl (by decide) _ _ _ rfl (World.ownsRow.alloc HO1.out.2 _) ⟨V.heap.size, 0, none⟩ 1 1 [.string X', .string y1, .int .i64 y2, .slice y3a y3n y3c, .slice y4a y4n y4c, .slice y5a y5n y5c, .slice y6a y6n y6c, .slice y7a y7n y7c, .slice y8a y8n y8c] rfl rfl (by intro j u hj; match j, hj with | 0, hj => simp at hj; subst hj; simp [Addr.add] | 1, hj => simp at hj; subst hj; simp [Addr.add] | 2, hj => simp at hj; subst hj; simp [Addr.add] | 3, hj => simp at hj; subst hj; simp [Addr.add] | 4, hj => simp at hj; subst hj; simp [Addr.add] | 5, hj => simp at hj; subst hj; simp [Addr.add] | 6, hj => simp at hj; subst hj; simp [Addr.add] | 7, hj => simp at hj; subst hj; simp [Addr.add] | 8, hj => simp at hj; subst hj; simp [Addr.add]) (by intro u hu; simp at hu; rcases hu with rfl | rfl | rfl | rfl | rfl | rfl | rfl | rfl | rfl <;> rfl) (by rw [List.length_map]; unfold maxLen; omega) (by rw [List.length_map]; omega) (by simp; omega) ?_))
       intro v' w3 hown' hgrow _
       have HO3 : Hid (OwnOUa w3 (w.heap.size + 1) v' (P.take (k + 1 + true.toNat))) := Lib.hid (by show OwnOUa _ _ _ (P.take (k + 2)); rw [HKK.out]; exact OwnOUa.app (x := (y0, y1, y2, (y3a, y3n, y3c), (y4a, y4n, y4c), (y5a, y5n, y5c), (y6a, y6n, y6c), (y7a, y7n, y7c), (y8a, y8n, y8c))) HYY.out (by first | exact hown' | (rw [List.length_map] at hown'; exact hown')))
       have HB3 : Hid (Below (w.heap.size + 1) (w.alloc (.cells #[.string X, .string x.2.1, .int .i64 x.2.2.1, .slice x.2.2.2.1.1 x.2.2.2.1.2.1 x.2.2.2.1.2.2, .slice x.2.2.2.2.1.1 x.2.2.2.2.1.2.1 x.2.2.2.2.1.2.2, .slice x.2.2.2.2.2.1.1 x.2.2.2.2.2.1.2.1 x.2.2.2.2.2.1.2.2, .slice x.2.2.2.2.2.2.1.1 x.2.2.2.2.2.2.1.2.1 x.2.2.2.2.2.2.1.2.2, .slice x.2.2.2.2.2.2.2.1.1 x.2.2.2.2.2.2.2.1.2.1 x.2.2.2.2.2.2.2.1.2.2, .slice x.2.2.2.2.2.2.2.2.1 x.2.2.2.2.2.2.2.2.2.1 x.2.2.2.2.2.2.2.2.2.2] 43)) w3) := Lib.hid (OwnV.below HB2.out HO1.out hgrow (Nat.le_refl _) (by omega))
       clear hown' hgrow
       go_wp2
       go_roundw
       case rel => exact ⟨k + 1, true, by omega, by go_num, rfl, HQ2, HO3, HB3⟩
       case measure => simp [intOf]; omega
     | false =>
       have hmk : k ≤ m := Nat.le_of_not_lt (of_decide_eq_false HQ.out.symm)
       have hln := hlen k
       by_cases hkm : k = m
       · have hgt := overO_ltUa (HF2.out _ (by rw [← hkm]; exact HY.out))
         rw [hgt.1] at hls
         rw [hgt.2] at heq
         have HKK : Hid (P.take (k + 1) = P.take k ++ [x]) := Lib.hid (by rw [hkm]; exact HF3.out)
         have HK2 := Lib.hid (HF4.out k _ HY.out (by omega))
         have HQ2 : Hid (true = decide (m < k + 1)) := Lib.hid (decide_eq_true (by omega)).symm
         clear hgt hmk hkm
         go_wp2
         go_quiet (fail)
         have HO1 : Hid (OwnOUa (wr.drewN nq) (w.heap.size + 1) _ (P.take k)) := Lib.hid (OwnV.on HO.out (belowQ (Below.refl _ _) nq))
         have HB2 : Hid (Below (w.heap.size + 1) (w.alloc (.cells #[.string X, .string x.2.1, .int .i64 x.2.2.1, .slice x.2.2.2.1.1 x.2.2.2.1.2.1 x.2.2.2.1.2.2, .slice x.2.2.2.2.1.1 x.2.2.2.2.1.2.1 x.2.2.2.2.1.2.2, .slice x.2.2.2.2.2.1.1 x.2.2.2.2.2.1.2.1 x.2.2.2.2.2.1.2.2, .slice x.2.2.2.2.2.2.1.1 x.2.2.2.2.2.2.1.2.1 x.2.2.2.2.2.2.1.2.2, .slice x.2.2.2.2.2.2.2.1.1 x.2.2.2.2.2.2.2.1.2.1 x.2.2.2.2.2.2.2.1.2.2, .slice x.2.2.2.2.2.2.2.2.1 x.2.2.2.2.2.2.2.2.2.1 x.2.2.2.2.2.2.2.2.2.2] 43)) (wr.drewN nq)) := Lib.hid (belowQ HB.out nq)
         rw [← World.cell?_drewN wr nq] at c0 c1 c2 c3 c4 c5 c6 c7 c8 q0 q1 q2 q3 q4 q5 q6 q7 q8
         have hszV := HB2.out.size
         rw [World.size_alloc] at hszV
         clear HO HB
         generalize wr.drewN nq = V at *
         obtain ⟨R, hR⟩ : ∃ R, P.take k = R := ⟨_, rfl⟩
         rw [hR] at HO1 HKK hln
         clear hR
         go_wp2_with (first
         | (at_builtin; refine wpList_append_own _ rfl _ _ 22 rfl (w.heap.size + 1) 43 i0 _ 9 184 Tryz.underlying22 hi hz0 hz1 hz2' rfl (by decide) _ _ _ rfl (World.ownsRow.alloc HO1.out.2 _) ⟨V.heap.size, 0, none⟩ 1 1 [.string X, .string x.2.1, .int .i64 x.2.2.1, .slice x.2.2.2.1.1 x.2.2.2.1.2.1 x.2.2.2.1.2.2, .slice x.2.2.2.2.1.1 x.2.2.2.2.1.2.1 x.2.2.2.2.1.2.2, .slice x.2.2.2.2.2.1.1 x.2.2.2.2.2.1.2.1 x.2.2.2.2.2.1.2.2, .slice x.2.2.2.2.2.2.1.1 x.2.2.2.2.2.2.1.2.1 x.2.2.2.2.2.2.1.2.2, .slice x.2.2.2.2.2.2.2.1.1 x.2.2.2.2.2.2.2.1.2.1 x.2.2.2.2.2.2.2.1.2.2, .slice x.2.2.2.2.2.2.2.2.1 x.2.2.2.2.2.2.2.2.2.1 x.2.2.2.2.2.2.2.2.2.2] rfl rfl (by intro j u hj; match j, hj with | 0, hj => simp at hj; subst hj; simp [Addr.add] | 1, hj => simp at hj; subst hj; simp [Addr.add] | 2, hj => simp at hj; subst hj; simp [Addr.add] | 3, hj => simp at hj; subst hj; simp [Addr.add] | 4, hj => simp at hj; subst hj; simp [Addr.add] | 5, hj => simp at hj; subst hj; simp [Addr.add] | 6, hj => simp at hj; subst hj; simp [Addr.add] | 7, hj => simp at hj; subst hj; simp [Addr.add] | 8, hj => simp at hj; subst hj; simp [Addr.add]) (by intro u hu; simp at hu; rcases hu with rfl | rfl | rfl | rfl | rfl | rfl | rfl | rfl | rfl <;> rfl) (by rw [List.length_map]; unfold maxLen; omega) (by rw [List.length_map]; omega) (by simp; omega) ?_))
         intro v' w3 hown' hgrow _
         have HO3 : Hid (OwnOUa w3 (w.heap.size + 1) v' (P.take (k + 1))) := Lib.hid (by rw [HKK.out]; exact OwnOUa.app (x := x) HX.out (by first | exact hown' | (rw [List.length_map] at hown'; exact hown')))
         have HB3 : Hid (Below (w.heap.size + 1) (w.alloc (.cells #[.string X, .string x.2.1, .int .i64 x.2.2.1, .slice x.2.2.2.1.1 x.2.2.2.1.2.1 x.2.2.2.1.2.2, .slice x.2.2.2.2.1.1 x.2.2.2.2.1.2.1 x.2.2.2.2.1.2.2, .slice x.2.2.2.2.2.1.1 x.2.2.2.2.2.1.2.1 x.2.2.2.2.2.1.2.2, .slice x.2.2.2.2.2.2.1.1 x.2.2.2.2.2.2.1.2.1 x.2.2.2.2.2.2.1.2.2, .slice x.2.2.2.2.2.2.2.1.1 x.2.2.2.2.2.2.2.1.2.1 x.2.2.2.2.2.2.2.1.2.2, .slice x.2.2.2.2.2.2.2.2.1 x.2.2.2.2.2.2.2.2.2.1 x.2.2.2.2.2.2.2.2.2.2] 43)) w3) := Lib.hid (OwnV.below HB2.out HO1.out hgrow (Nat.le_refl _) (by omega))
         have HBW3 : Hid (Below w.heap.size w w3) := Lib.hid (HB1.out.trans (HB3.out.mono (by omega)))
         have hsz3 := HB3.out.size
         rw [World.size_alloc] at hsz3
         obtain ⟨d0, d1, d2, d3, d4, d5, d6, d7, d8⟩ := HCW.out
         rw [← HBW3.out.cell (p := ⟨b, o + k * 9, none⟩) hbw] at d0
         rw [← HBW3.out.cell (p := ⟨b, o + k * 9 + 1, none⟩) hbw] at d1
         rw [← HBW3.out.cell (p := ⟨b, o + k * 9 + 2, none⟩) hbw] at d2
         rw [← HBW3.out.cell (p := ⟨b, o + k * 9 + 3, none⟩) hbw] at d3
         rw [← HBW3.out.cell (p := ⟨b, o + k * 9 + 4, none⟩) hbw] at d4
         rw [← HBW3.out.cell (p := ⟨b, o + k * 9 + 5, none⟩) hbw] at d5
         rw [← HBW3.out.cell (p := ⟨b, o + k * 9 + 6, none⟩) hbw] at d6
         rw [← HBW3.out.cell (p := ⟨b, o + k * 9 + 7, none⟩) hbw] at d7
         rw [← HBW3.out.cell (p := ⟨b, o + k * 9 + 8, none⟩) hbw] at d8
         have hln2 := hlen (k + 1)
         obtain ⟨R2, hR2⟩ : ∃ R2, P.take (k + 1) = R2 := ⟨_, rfl⟩
         rw [hR2] at HO3 HK2 hln2
         clear hown' hgrow hR2 c0 c1 c2 c3 c4 c5 c6 c7 c8 HKK hln
         go_wp2_with (first
         | (at_builtin; refine wpList_append_own _ rfl _ _ 22 rfl (w.heap.size + 1) 43 i0 _ 9 184 Tryz.underlying22 hi hz0 hz1 hz2' rfl (by decide) _ _ _ rfl (World.ownsRow.alloc HO3.out.2 _) ⟨w3.heap.size, 0, none⟩ 1 1 [.string X', .string y1, .int .i64 y2, .slice y3a y3n y3c, .slice y4a y4n y4c, .slice y5a y5n y5c, .slice y6a y6n y6c, .slice y7a y7n y7c, .slice y8a y8n y8c] rfl rfl (by intro j u hj; match j, hj with | 0, hj => simp at hj; subst hj; simp [Addr.add] | 1, hj => simp at hj; subst hj; simp [Addr.add] | 2, hj => simp at hj; subst hj; simp [Addr.add] | 3, hj => simp at hj; subst hj; simp [Addr.add] | 4, hj => simp at hj; subst hj; simp [Addr.add] | 5, hj => simp at hj; subst hj; simp [Addr.add] | 6, hj => simp at hj; subst hj; simp [Addr.add] | 7, hj => simp at hj; subst hj; simp [Addr.add] | 8, hj => simp at hj; subst hj; simp [Addr.add]) (by intro u hu; simp at hu; rcases hu with rfl | rfl | rfl | rfl | rfl | rfl | rfl | rfl | rfl <;> rfl) (by rw [List.length_map]; unfold maxLen; omega) (by rw [List.length_map]; omega) (by simp; omega) ?_))
         intro v'' w4 hown' hgrow _
         have HO4 : Hid (OwnOUa w4 (w.heap.size + 1) v'' (P.take (k + 1 + true.toNat))) := Lib.hid (by show OwnOUa _ _ _ (P.take (k + 2)); rw [HK2.out]; exact OwnOUa.app (x := (y0, y1, y2, (y3a, y3n, y3c), (y4a, y4n, y4c), (y5a, y5n, y5c), (y6a, y6n, y6c), (y7a, y7n, y7c), (y8a, y8n, y8c))) HYY.out (by first | exact hown' | (rw [List.length_map] at hown'; exact hown')))
         have HB4 : Hid (Below (w.heap.size + 1) (w.alloc (.cells #[.string X, .string x.2.1, .int .i64 x.2.2.1, .slice x.2.2.2.1.1 x.2.2.2.1.2.1 x.2.2.2.1.2.2, .slice x.2.2.2.2.1.1 x.2.2.2.2.1.2.1 x.2.2.2.2.1.2.2, .slice x.2.2.2.2.2.1.1 x.2.2.2.2.2.1.2.1 x.2.2.2.2.2.1.2.2, .slice x.2.2.2.2.2.2.1.1 x.2.2.2.2.2.2.1.2.1 x.2.2.2.2.2.2.1.2.2, .slice x.2.2.2.2.2.2.2.1.1 x.2.2.2.2.2.2.2.1.2.1 x.2.2.2.2.2.2.2.1.2.2, .slice x.2.2.2.2.2.2.2.2.1 x.2.2.2.2.2.2.2.2.2.1 x.2.2.2.2.2.2.2.2.2.2] 43)) w4) := Lib.hid (OwnV.below HB3.out HO3.out hgrow (Nat.le_refl _) (by omega))
         clear hown' hgrow
         go_wp2
         go_roundw
         case rel => exact ⟨k + 1, true, by omega, by go_num, rfl, HQ2, HO4, HB4⟩
         case measure => simp [intOf]; omega
       · obtain ⟨hgt, hkk⟩ := HF1.out k _ HY.out (by omega)
         rw [overO_noUa hgt (HNP.out k _ HY.out)] at hls
         have HKK := Lib.hid hkk
         have HQ2 : Hid (false = decide (m < k + 1)) := Lib.hid (decide_eq_false (by omega)).symm
         clear hgt hmk hkm hkk
         go_wp2
         go_quiet (fail)
         have HO1 : Hid (OwnOUa (wr.drewN nq) (w.heap.size + 1) _ (P.take k)) := Lib.hid (OwnV.on HO.out (belowQ (Below.refl _ _) nq))
         have HB2 : Hid (Below (w.heap.size + 1) (w.alloc (.cells #[.string X, .string x.2.1, .int .i64 x.2.2.1, .slice x.2.2.2.1.1 x.2.2.2.1.2.1 x.2.2.2.1.2.2, .slice x.2.2.2.2.1.1 x.2.2.2.2.1.2.1 x.2.2.2.2.1.2.2, .slice x.2.2.2.2.2.1.1 x.2.2.2.2.2.1.2.1 x.2.2.2.2.2.1.2.2, .slice x.2.2.2.2.2.2.1.1 x.2.2.2.2.2.2.1.2.1 x.2.2.2.2.2.2.1.2.2, .slice x.2.2.2.2.2.2.2.1.1 x.2.2.2.2.2.2.2.1.2.1 x.2.2.2.2.2.2.2.1.2.2, .slice x.2.2.2.2.2.2.2.2.1 x.2.2.2.2.2.2.2.2.2.1 x.2.2.2.2.2.2.2.2.2.2] 43)) (wr.drewN nq)) := Lib.hid (belowQ HB.out nq)
         rw [← World.cell?_drewN wr nq] at c0 c1 c2 c3 c4 c5 c6 c7 c8 q0 q1 q2 q3 q4 q5 q6 q7 q8
         have hszV := HB2.out.size
         rw [World.size_alloc] at hszV
         clear HO HB
         generalize wr.drewN nq = V at *
         obtain ⟨R, hR⟩ : ∃ R, P.take k = R := ⟨_, rfl⟩
         rw [hR] at HO1 HKK hln
         clear hR
         go_wp2_with (first
         | (at_builtin; refine wpList_append_own _ rfl _ _ 22 rfl (w.heap.size + 1) 43 i0 _ 9 184 Tryz.underlying22 hi hz0 hz1 hz2' rfl (by decide) _ _ _ rfl (World.ownsRow.alloc HO1.out.2 _) ⟨V.heap.size, 0, none⟩ 1 1 [.string X', .string y1, .int .i64 y2, .slice y3a y3n y3c, .slice y4a y4n y4c, .slice y5a y5n y5c, .slice y6a y6n y6c, .slice y7a y7n y7c, .slice y8a y8n y8c] rfl rfl (by intro j u hj; match j, hj with | 0, hj => simp at hj; subst hj; simp [Addr.add] | 1, hj => simp at hj; subst hj; simp [Addr.add] | 2, hj => simp at hj; subst hj; simp [Addr.add] | 3, hj => simp at hj; subst hj; simp [Addr.add] | 4, hj => simp at hj; subst hj; simp [Addr.add] | 5, hj => simp at hj; subst hj; simp [Addr.add] | 6, hj => simp at hj; subst hj; simp [Addr.add] | 7, hj => simp at hj; subst hj; simp [Addr.add] | 8, hj => simp at hj; subst hj; simp [Addr.add]) (by intro u hu; simp at hu; rcases hu with rfl | rfl | rfl | rfl | rfl | rfl | rfl | rfl | rfl <;> rfl) (by rw [List.length_map]; unfold maxLen; omega) (by rw [List.length_map]; omega) (by simp; omega) ?_))
         intro v' w3 hown' hgrow _
         have HO3 : Hid (OwnOUa w3 (w.heap.size + 1) v' (P.take (k + 1 + false.toNat))) := Lib.hid (by show OwnOUa _ _ _ (P.take (k + 1)); rw [HKK.out]; exact OwnOUa.app (x := (y0, y1, y2, (y3a, y3n, y3c), (y4a, y4n, y4c), (y5a, y5n, y5c), (y6a, y6n, y6c), (y7a, y7n, y7c), (y8a, y8n, y8c))) HYY.out (by first | exact hown' | (rw [List.length_map] at hown'; exact hown')))
         have HB3 : Hid (Below (w.heap.size + 1) (w.alloc (.cells #[.string X, .string x.2.1, .int .i64 x.2.2.1, .slice x.2.2.2.1.1 x.2.2.2.1.2.1 x.2.2.2.1.2.2, .slice x.2.2.2.2.1.1 x.2.2.2.2.1.2.1 x.2.2.2.2.1.2.2, .slice x.2.2.2.2.2.1.1 x.2.2.2.2.2.1.2.1 x.2.2.2.2.2.1.2.2, .slice x.2.2.2.2.2.2.1.1 x.2.2.2.2.2.2.1.2.1 x.2.2.2.2.2.2.1.2.2, .slice x.2.2.2.2.2.2.2.1.1 x.2.2.2.2.2.2.2.1.2.1 x.2.2.2.2.2.2.2.1.2.2, .slice x.2.2.2.2.2.2.2.2.1 x.2.2.2.2.2.2.2.2.2.1 x.2.2.2.2.2.2.2.2.2.2] 43)) w3) := Lib.hid (OwnV.below HB2.out HO1.out hgrow (Nat.le_refl _) (by omega))
         clear hown' hgrow
         go_wp2
         go_roundw
         case rel => exact ⟨k + 1, false, by omega, by go_num, rfl, HQ2, HO3, HB3⟩
         case measure => simp [intOf]; omega
   · obtain rfl : k = n := by omega
     have HF : Hid (P.take (k + 1) = P) := Lib.hid (List.take_of_length_le (by rw [HPL.out]; exact Nat.le_refl _))
     cases q with
     | true =>
       have HO1 : Hid (OwnOUa wr (w.heap.size + 1) u5 P) := Lib.hid (by have := HO.out; rw [show k + true.toNat = k + 1 from rfl, HF.out] at this; exact this)
       clear hlt HO
       go_wp2
       go_ret
       exact HP.out _ _ HO1.out.holds HBW.out
     | false =>
       have hmk : k = m := by have := of_decide_eq_false HQ.out.symm; omega
       have hpk : P = P.take k ++ [x] := by
         have e := HF3.out
         rw [← hmk] at e
         exact HF.out.symm.trans e
       have HKK : Hid (P = P.take k ++ [x]) := Lib.hid hpk
       clear hpk
       have HO1 : Hid (OwnOUa wr (w.heap.size + 1) u5 (P.take k)) := HO
       have hln := hlen k
       obtain ⟨R, hR⟩ : ∃ R, P.take k = R := ⟨_, rfl⟩
       rw [hR] at HO1 hln
       have HKK2 : Hid (P = R ++ [x]) := Lib.hid (by rw [← hR]; exact HKK.out)
       clear hR hlt HO HKK
       go_wp2_with (first
         | (at_builtin; refine wpList_append_own _ rfl _ _ 22 rfl (w.heap.size + 1) 43 i0 _ 9 184 Tryz.underlying22 hi hz0 hz1 hz2' rfl (by decide) _ _ _ rfl (World.ownsRow.alloc HO1.out.2 _) ⟨wr.heap.size, 0, none⟩ 1 1 [.string X, .string x.2.1, .int .i64 x.2.2.1, .slice x.2.2.2.1.1 x.2.2.2.1.2.1 x.2.2.2.1.2.2, .slice x.2.2.2.2.1.1 x.2.2.2.2.1.2.1 x.2.2.2.2.1.2.2, .slice x.2.2.2.2.2.1.1 x.2.2.2.2.2.1.2.1 x.2.2.2.2.2.1.2.2, .slice x.2.2.2.2.2.2.1.1 x.2.2.2.2.2.2.1.2.1 x.2.2.2.2.2.2.1.2.2, .slice x.2.2.2.2.2.2.2.1.1 x.2.2.2.2.2.2.2.1.2.1 x.2.2.2.2.2.2.2.1.2.2, .slice x.2.2.2.2.2.2.2.2.1 x.2.2.2.2.2.2.2.2.2.1 x.2.2.2.2.2.2.2.2.2.2] rfl rfl (by intro j u hj; match j, hj with | 0, hj => simp at hj; subst hj; simp [Addr.add] | 1, hj => simp at hj; subst hj; simp [Addr.add] | 2, hj => simp at hj; subst hj; simp [Addr.add] | 3, hj => simp at hj; subst hj; simp [Addr.add] | 4, hj => simp at hj; subst hj; simp [Addr.add] | 5, hj => simp at hj; subst hj; simp [Addr.add] | 6, hj => simp at hj; subst hj; simp [Addr.add] | 7, hj => simp at hj; subst hj; simp [Addr.add] | 8, hj => simp at hj; subst hj; simp [Addr.add]) (by intro u hu; simp at hu; rcases hu with rfl | rfl | rfl | rfl | rfl | rfl | rfl | rfl | rfl <;> rfl) (by rw [List.length_map]; unfold maxLen; omega) (by rw [List.length_map]; omega) (by simp; omega) ?_))
       intro v' w3 hown' hgrow _
       have HO3 : Hid (OwnOUa w3 (w.heap.size + 1) v' P) := Lib.hid (by rw [HKK2.out]; exact OwnOUa.app (x := x) HX.out (by first | exact hown' | (rw [List.length_map] at hown'; exact hown')))
       have HB3 : Hid (Below (w.heap.size + 1) (w.alloc (.cells #[.string X, .string x.2.1, .int .i64 x.2.2.1, .slice x.2.2.2.1.1 x.2.2.2.1.2.1 x.2.2.2.1.2.2, .slice x.2.2.2.2.1.1 x.2.2.2.2.1.2.1 x.2.2.2.2.1.2.2, .slice x.2.2.2.2.2.1.1 x.2.2.2.2.2.1.2.1 x.2.2.2.2.2.1.2.2, .slice x.2.2.2.2.2.2.1.1 x.2.2.2.2.2.2.1.2.1 x.2.2.2.2.2.2.1.2.2, .slice x.2.2.2.2.2.2.2.1.1 x.2.2.2.2.2.2.2.1.2.1 x.2.2.2.2.2.2.2.1.2.2, .slice x.2.2.2.2.2.2.2.2.1 x.2.2.2.2.2.2.2.2.2.1 x.2.2.2.2.2.2.2.2.2.2] 43)) w3) := Lib.hid (OwnV.below HB.out HO1.out hgrow (Nat.le_refl _) (by omega))
       clear hown' hgrow
       go_wp2
       go_ret
       exact HP.out _ _ HO3.out.holds (HB1.out.trans (HB3.out.mono (by omega)))
theorem putO_refUa (v : Value) (l : List OvUa) (hl : l.length ≤ 90000) (x : OvUa) (w : World) (h : HoldOUa w v l) : Calls Tryz.prog 22 #[v, aggOUa x] w (PutPostOUa l x w) := by
 cases hk0 : l.findIdx? (pathIsOUa x.1) with
 | none => exact putO_ref_newUa v l hl x w h hk0
 | some k0 => exact putO_ref_oldUa v l hl x w h k0 hk0
end Go.Proofs.YtnnagboeimeiiaaGreatDoor
