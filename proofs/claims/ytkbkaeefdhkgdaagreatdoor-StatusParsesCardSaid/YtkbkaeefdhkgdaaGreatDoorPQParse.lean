import Derived.Test.YtkbkaeefdhkgdaaGreatDoorPBRefR
set_option maxRecDepth 100000
set_option maxHeartbeats 32000000
namespace Go.Proofs.YtkbkaeefdhkgdaaGreatDoor
open Go.RowKit
theorem ext_end (s : ByteArray) (k : Nat) : (s.extract k s.size).data.toList = s.data.toList.drop k := by
 rw [extL, List.take_of_length_le (by rw [List.length_drop, ← sizeOf]; omega)]
def relV (x : Rl) : Value := .agg #[.string ⟨x.1.toArray⟩, .string ⟨x.2.1.toArray⟩, .string ⟨x.2.2.toArray⟩]
def parsedR (o : Option Rl) : Value := match o with
 | some x => .tuple #[relV x, .bool true]
 | none => .tuple #[relV ([], [], []), .bool false]
def ParsePost7 (s : Bs) (w : World) (e : Ending) (w' : World) : Prop := e = .returned (parsedR (parseR s)) ∧ Below w.heap.size w w'
structure BoxQ (w : World) (b : Nat) (x y z : ByteArray) : Prop where
 c0 : w.cell? ⟨b, 0, none⟩ = some (.string x)
 c1 : w.cell? ⟨b, 1, none⟩ = some (.string y)
 c2 : w.cell? ⟨b, 2, none⟩ = some (.string z)
 f : ∀ i, w.frozen? ⟨b, i, none⟩ = false
theorem BoxQ.new (A : World) (x y z : ByteArray) (t : TypeId) : BoxQ (A.alloc (.cells #[.string x, .string y, .string z] t)) A.heap.size x y z :=
 ⟨(box3New A x y z t).1, (box3New A x y z t).2.1, (box3New A x y z t).2.2, fun i => frozen_of_row _ A.heap.size i _ t (heap_alloc_new A _)⟩
theorem BoxQ.on {A B : World} {b : Nat} {x y z : ByteArray} (h : BoxQ A b x y z) (hb : Below A.heap.size A B) : BoxQ B b x y z := by
 have hlt := World.block_lt_of_cell? A _ h.c0
 have k := fun o => hb.cell (p := ⟨b, o, none⟩) hlt
 exact ⟨by rw [k]; exact h.c0, by rw [k]; exact h.c1, by rw [k]; exact h.c2, fun i => by rw [hb.frozen (p := ⟨b, i, none⟩) hlt]; exact h.f i⟩
abbrev putQ3 (w : World) (b : Nat) (x y z : ByteArray) : World := ((w.setCell ⟨b, 0, none⟩ (.string x)).setCell ⟨b, 1, none⟩ (.string y)).setCell ⟨b, 2, none⟩ (.string z)
theorem BoxQ.put {w : World} {b : Nat} {x y z : ByteArray} (h : BoxQ w b x y z) (x' y' z' : ByteArray) : (putQ3 w b x' y' z').cell? ⟨b, 0, none⟩ = some (.string x') ∧ (putQ3 w b x' y' z').cell? ⟨b, 1, none⟩ = some (.string y') ∧ (putQ3 w b x' y' z').cell? ⟨b, 2, none⟩ = some (.string z') := by
 have o : ∀ (A : World) (i j : Nat) (u v : Value), i ≠ j → A.cell? ⟨b, j, none⟩ = some v → (A.setCell ⟨b, i, none⟩ u).cell? ⟨b, j, none⟩ = some v := fun A i j u v hij hv => (World.cell?_setCell_other _ _ _ _ (fun e => hij (congrArg Addr.off e))).trans hv
 have s0 : ∀ (A : World) (i : Nat) (u v : Value), A.cell? ⟨b, i, none⟩ = some v → (A.setCell ⟨b, i, none⟩ u).cell? ⟨b, i, none⟩ = some u := fun A i u v hv => World.cell?_setCell_same _ _ _ hv
 exact ⟨o _ 2 0 _ _ (by omega) (o _ 1 0 _ _ (by omega) (s0 _ 0 _ _ h.c0)), o _ 2 1 _ _ (by omega) (s0 _ 1 _ _ (o _ 0 1 _ _ (by omega) h.c1)), s0 _ 2 _ _ (o _ 1 2 _ _ (by omega) (o _ 0 2 _ _ (by omega) h.c2))⟩
theorem putQ3_below {B : Nat} {w0 w : World} {b : Nat} (h : Below B w0 w) (hb : B ≤ b) (x y z : ByteArray) : Below B w0 (putQ3 w b x y z) := ((h.setCell (p := ⟨b, 0, none⟩) hb _).setCell (p := ⟨b, 1, none⟩) hb _).setCell (p := ⟨b, 2, none⟩) hb _
theorem parse_ref7 (s : ByteArray) (hs : s.size ≤ 4000) (w : World) : Calls Tryz.prog 80 #[.string s] w (ParsePost7 s.data.toList w) := by
 have C : ∀ w, Calls Tryz.prog 36 #[.string s, .int .u8 32] w fun e w' => ∃ v, e = .returned v ∧ OwnT w' w.heap.size v (spl 32 s.data.toList) ∧ Below w.heap.size w w' := fun w => split_ref6 s (by omega) 32 w
 have hne := spl_ne 32 s.data.toList
 have hpc : ∀ p ∈ spl 32 s.data.toList, p.length ≤ 4000 := fun p hp => by have := spl_piece 32 s.data.toList p hp; rw [← sizeOf] at this; omega
 have hln := spl_len 32 s.data.toList
 rw [← sizeOf] at hln
 obtain ⟨ls, hls⟩ : ∃ ls, spl 32 s.data.toList = ls := ⟨_, rfl⟩
 have HRD : Hid (readR s.data.toList = readL ls) := Lib.hid (by unfold readR; rw [hls])
 rw [hls] at C hne hpc hln
 have HPC := Lib.hid hpc
 obtain ⟨m, hm⟩ : ∃ m, ls.length = m := ⟨_, rfl⟩
 rw [hm] at hln
 have hm0 : 0 < m := by rw [← hm]; exact List.length_pos_iff.2 hne
 have HM := Lib.hid hm
 clear hls hne hpc hm
 go_enter Tryz.func80, Tryz.ntmps80
 go_wp2_with (go_at_call 36; (with_reducible refine (C _).mono ?_); rintro e w1 ⟨v1, rfl, ho, hb⟩; obtain ⟨al, cl, bl, ol, rfl, hcl, hal, hlc⟩ := ho.holds; have HLC := Lib.hid hlc; have HB1 := Lib.hid hb; rw [HM.out]; rw [HM.out] at hcl hal; clear ho hlc hb C; refine Hid.out ?_)
 refine Lib.hid ?_
 obtain ⟨rfl, hbl⟩ := hal hm0
 obtain ⟨n, hn⟩ : ∃ n : ByteArray, n.data.toList = ls[0]'(by rw [HM.out]; exact hm0) := ⟨⟨(ls[0]'(by rw [HM.out]; exact hm0)).toArray⟩, by simp⟩
 have hc0 : w1.cell? ⟨bl, ol, none⟩ = some (.string n) := by
  have := HLC.out 0 _ (List.getElem?_eq_getElem (by rw [HM.out]; exact hm0))
  rw [Nat.add_zero, ← hn, ← strOf (x := n) rfl] at this; exact this
 have hns : n.size ≤ 4000 := by rw [sizeOf, hn]; exact HPC.out _ (List.getElem_mem _)
 have HRES := Lib.hid ((BoxQ.new w ⟨#[]⟩ ⟨#[]⟩ ⟨#[]⟩ 46).on HB1.out)
 have KEY : Hid (∀ (X Y : ByteArray), readL ls = (n.data.toList, X.data.toList, Y.data.toList) → X.size ≤ 4000 → Y.size ≤ 4000 → ∃ (rb : Bool) (t : ByteArray), (∀ w, Calls Tryz.prog 37 #[.agg #[.string n, .string X, .string Y]] w fun e w' => e = .returned (.bool rb) ∧ Below w.heap.size w w') ∧ (∀ w, Calls Tryz.prog 38 #[.agg #[.string n, .string X, .string Y]] w fun e w' => e = .returned (.string t) ∧ Below w.heap.size w w') ∧ Hid (parseR s.data.toList = if rb = true ∧ t.data.toList = s.data.toList then some (n.data.toList, X.data.toList, Y.data.toList) else none)) := Lib.hid (fun X Y h hX hY => ⟨_, _, fun w => rightQ_ref n X Y (by omega) hY w, fun w => text_ref7 n X Y (by omega) (by omega) (by omega) w, Lib.hid (by unfold parseR; rw [HRD.out, h])⟩)
 have HW : Hid (Below w.heap.size w w1) := Lib.hid (((Below.refl w.heap.size w).alloc (Nat.le_refl _) _).trans (HB1.out.mono (by simp)))
 have hwz : w.heap.size < w1.heap.size := by have := HB1.out.size; simp only [World.size_alloc] at this; omega
 have HYES : Hid (∀ (X Y : ByteArray) w', parseR s.data.toList = some (n.data.toList, X.data.toList, Y.data.toList) → Below w.heap.size w w' → ParsePost7 s.data.toList w (.returned (.tuple #[.agg #[.string n, .string X, .string Y], .bool true])) w') := Lib.hid (fun X Y w' h hb => ⟨by rw [h]; rfl, hb⟩)
 have HNO : Hid (∀ w', parseR s.data.toList = none → Below w.heap.size w w' → ParsePost7 s.data.toList w (.returned (.tuple #[.agg #[.string ⟨#[]⟩, .string ⟨#[]⟩, .string ⟨#[]⟩], .bool false])) w') := Lib.hid (fun w' h hb => ⟨by rw [h]; rfl, hb⟩)
 clear HRD
 have HNL := Lib.hid hn
 have hn0 : ls[0]? = some n.data.toList := by rw [hn]; exact List.getElem?_eq_getElem _
 have HN0 := Lib.hid hn0
 clear hn hn0
 by_cases hm3 : m = 3
 ·
  subst hm3
  obtain ⟨O, hO⟩ : ∃ O : ByteArray, O.data.toList = ls[1]'(by rw [HM.out]; omega) := ⟨⟨(ls[1]'(by rw [HM.out]; omega)).toArray⟩, by simp⟩
  obtain ⟨V, hV⟩ : ∃ V : ByteArray, V.data.toList = ls[2]'(by rw [HM.out]; omega) := ⟨⟨(ls[2]'(by rw [HM.out]; omega)).toArray⟩, by simp⟩
  have hO1 : ls[1]? = some O.data.toList := by rw [hO]; exact List.getElem?_eq_getElem _
  have hV1 : ls[2]? = some V.data.toList := by rw [hV]; exact List.getElem?_eq_getElem _
  have HRL := Lib.hid (readL_three HM.out HN0.out hO1 hV1)
  have hc1 : w1.cell? ⟨bl, ol + 1, none⟩ = some (.string O) := by have := HLC.out 1 _ hO1; rw [← strOf (x := O) rfl] at this; exact this
  have hc2 : w1.cell? ⟨bl, ol + 2, none⟩ = some (.string V) := by have := HLC.out 2 _ hV1; rw [← strOf (x := V) rfl] at this; exact this
  have hal1 : ∀ (o : Obj) (i : Nat), (w1.alloc o).cell? ⟨bl, i, none⟩ = w1.cell? ⟨bl, i, none⟩ := fun o i => ((Below.refl w1.heap.size w1).alloc (Nat.le_refl _) o).cell (p := ⟨bl, i, none⟩) hbl
  have hOs : O.size ≤ 4000 := by rw [sizeOf, hO]; exact HPC.out _ (List.getElem_mem _)
  have hVs : V.size ≤ 4000 := by rw [sizeOf, hV]; exact HPC.out _ (List.getElem_mem _)
  clear hO hV hO1 hV1
  by_cases hO0 : O.size = 0
  ·
   have hOn : O.data.toList = [] := List.eq_nil_of_length_eq_zero (by rw [← sizeOf]; exact hO0)
   have HK : Hid (readL ls = (n.data.toList, (⟨#[]⟩ : ByteArray).data.toList, (⟨#[]⟩ : ByteArray).data.toList)) := Lib.hid (by rw [HRL.out, if_neg (fun g => g.1 hOn)])
   clear hOn HRL
   obtain ⟨rb, t, R, T, HP⟩ := KEY.out ⟨#[]⟩ ⟨#[]⟩ HK.out (by decide) (by decide)
   have BX := BoxQ.new w1 n ⟨#[]⟩ ⟨#[]⟩ 46
   have B0 := (Below.refl w1.heap.size w1).alloc (Nat.le_refl _) (.cells #[.string n, .string ⟨#[]⟩, .string ⟨#[]⟩] 46)
   have HBX := Lib.hid (BX)
   have HR0 := Lib.hid (HRES.out.on B0)
   have HW0 := Lib.hid (HW.out.trans (B0.mono (by omega)))
   have hw0 := B0.size
   clear BX B0
   cases rb with
   | false =>
    have G := Lib.hid (fun w' => HNO.out w' (by rw [HP.out, if_neg (by simp)]))
    clear T
    go_wp2_with (first
     | (go_at_call 37; (with_reducible refine (R _).mono ?_); rintro e w3 ⟨rfl, hb⟩; obtain ⟨r0, r1, r2, rf⟩ := HR0.out.on hb; have HB3 := Lib.hid (HW0.out.trans (hb.mono HW0.out.size)); clear hb))
    obtain ⟨k0, k1, k2⟩ := BoxQ.put ⟨r0, r1, r2, rf⟩ ⟨#[]⟩ ⟨#[]⟩ ⟨#[]⟩
    exact bodyPost_ret (v := .tuple #[.agg #[.string ⟨#[]⟩, .string ⟨#[]⟩, .string ⟨#[]⟩], .bool false]) (by simp [results, Tryz.results80, go_sem, k0, k1, k2]) rfl (G.out _ (putQ3_below HB3.out (Nat.le_refl _) _ _ _))
   | true =>
    have hq := eqT t s
    by_cases hts : t.data.toList = s.data.toList
    ·
     rw [decide_eq_true hts] at hq
     have G := Lib.hid (fun w' => HYES.out ⟨#[]⟩ ⟨#[]⟩ w' (by rw [HP.out, if_pos ⟨rfl, hts⟩]))
     clear hts
     go_wp2_with (first
      | (go_at_call 37; (with_reducible refine (R _).mono ?_); rintro e w3 ⟨rfl, hb⟩; obtain ⟨b0, b1, b2, bf⟩ := HBX.out.on hb; have HBX3 := Lib.hid (HBX.out.on hb); have HR3 := Lib.hid (HR0.out.on hb); have HB3 := Lib.hid (HW0.out.trans (hb.mono HW0.out.size)); clear hb R)
      | (go_at_call 38; (with_reducible refine (T _).mono ?_); rintro e w4 ⟨rfl, hb⟩; obtain ⟨d0, d1, d2, df⟩ := HBX3.out.on hb; obtain ⟨r0, r1, r2, rf⟩ := HR3.out.on hb; have HB4 := Lib.hid (HB3.out.trans (hb.mono HB3.out.size)); clear hb T))
     obtain ⟨k0, k1, k2⟩ := BoxQ.put ⟨r0, r1, r2, rf⟩ n ⟨#[]⟩ ⟨#[]⟩
     exact bodyPost_ret (v := .tuple #[.agg #[.string n, .string ⟨#[]⟩, .string ⟨#[]⟩], .bool true]) (by simp [results, Tryz.results80, go_sem, k0, k1, k2]) rfl (G.out _ (putQ3_below HB4.out (Nat.le_refl _) _ _ _))
    ·
     rw [decide_eq_false hts] at hq
     have G := Lib.hid (fun w' => HNO.out w' (by rw [HP.out, if_neg (fun g => hts g.2)]))
     clear hts
     go_wp2_with (first
      | (go_at_call 37; (with_reducible refine (R _).mono ?_); rintro e w3 ⟨rfl, hb⟩; obtain ⟨b0, b1, b2, bf⟩ := HBX.out.on hb; have HR3 := Lib.hid (HR0.out.on hb); have HB3 := Lib.hid (HW0.out.trans (hb.mono HW0.out.size)); clear hb R)
      | (go_at_call 38; (with_reducible refine (T _).mono ?_); rintro e w4 ⟨rfl, hb⟩; obtain ⟨r0, r1, r2, rf⟩ := HR3.out.on hb; have HB4 := Lib.hid (HB3.out.trans (hb.mono HB3.out.size)); clear hb T))
     obtain ⟨k0, k1, k2⟩ := BoxQ.put ⟨r0, r1, r2, rf⟩ ⟨#[]⟩ ⟨#[]⟩ ⟨#[]⟩
     exact bodyPost_ret (v := .tuple #[.agg #[.string ⟨#[]⟩, .string ⟨#[]⟩, .string ⟨#[]⟩], .bool false]) (by simp [results, Tryz.results80, go_sem, k0, k1, k2]) rfl (G.out _ (putQ3_below HB4.out (Nat.le_refl _) _ _ _))
  ·
   by_cases hV0 : V.size = 0
   ·
    have hVn : V.data.toList = [] := List.eq_nil_of_length_eq_zero (by rw [← sizeOf]; exact hV0)
    have HK : Hid (readL ls = (n.data.toList, (⟨#[]⟩ : ByteArray).data.toList, (⟨#[]⟩ : ByteArray).data.toList)) := Lib.hid (by rw [HRL.out, if_neg (fun g => g.2 hVn)])
    have hOp : 0 < O.size := by omega
    clear hVn HRL hO0
    obtain ⟨rb, t, R, T, HP⟩ := KEY.out ⟨#[]⟩ ⟨#[]⟩ HK.out (by decide) (by decide)
    have BX := BoxQ.new w1 n ⟨#[]⟩ ⟨#[]⟩ 46
    have B0 := (Below.refl w1.heap.size w1).alloc (Nat.le_refl _) (.cells #[.string n, .string ⟨#[]⟩, .string ⟨#[]⟩] 46)
    have HBX := Lib.hid (BX)
    have HR0 := Lib.hid (HRES.out.on B0)
    have HW0 := Lib.hid (HW.out.trans (B0.mono (by omega)))
    have hw0 := B0.size
    clear BX B0
    cases rb with
    | false =>
     have G := Lib.hid (fun w' => HNO.out w' (by rw [HP.out, if_neg (by simp)]))
     clear T
     go_wp2_with (first
      | (go_at_call 37; (with_reducible refine (R _).mono ?_); rintro e w3 ⟨rfl, hb⟩; obtain ⟨r0, r1, r2, rf⟩ := HR0.out.on hb; have HB3 := Lib.hid (HW0.out.trans (hb.mono HW0.out.size)); clear hb))
     obtain ⟨k0, k1, k2⟩ := BoxQ.put ⟨r0, r1, r2, rf⟩ ⟨#[]⟩ ⟨#[]⟩ ⟨#[]⟩
     exact bodyPost_ret (v := .tuple #[.agg #[.string ⟨#[]⟩, .string ⟨#[]⟩, .string ⟨#[]⟩], .bool false]) (by simp [results, Tryz.results80, go_sem, k0, k1, k2]) rfl (G.out _ (putQ3_below HB3.out (Nat.le_refl _) _ _ _))
    | true =>
     have hq := eqT t s
     by_cases hts : t.data.toList = s.data.toList
     ·
      rw [decide_eq_true hts] at hq
      have G := Lib.hid (fun w' => HYES.out ⟨#[]⟩ ⟨#[]⟩ w' (by rw [HP.out, if_pos ⟨rfl, hts⟩]))
      clear hts
      go_wp2_with (first
       | (go_at_call 37; (with_reducible refine (R _).mono ?_); rintro e w3 ⟨rfl, hb⟩; obtain ⟨b0, b1, b2, bf⟩ := HBX.out.on hb; have HBX3 := Lib.hid (HBX.out.on hb); have HR3 := Lib.hid (HR0.out.on hb); have HB3 := Lib.hid (HW0.out.trans (hb.mono HW0.out.size)); clear hb R)
       | (go_at_call 38; (with_reducible refine (T _).mono ?_); rintro e w4 ⟨rfl, hb⟩; obtain ⟨d0, d1, d2, df⟩ := HBX3.out.on hb; obtain ⟨r0, r1, r2, rf⟩ := HR3.out.on hb; have HB4 := Lib.hid (HB3.out.trans (hb.mono HB3.out.size)); clear hb T))
      obtain ⟨k0, k1, k2⟩ := BoxQ.put ⟨r0, r1, r2, rf⟩ n ⟨#[]⟩ ⟨#[]⟩
      exact bodyPost_ret (v := .tuple #[.agg #[.string n, .string ⟨#[]⟩, .string ⟨#[]⟩], .bool true]) (by simp [results, Tryz.results80, go_sem, k0, k1, k2]) rfl (G.out _ (putQ3_below HB4.out (Nat.le_refl _) _ _ _))
     ·
      rw [decide_eq_false hts] at hq
      have G := Lib.hid (fun w' => HNO.out w' (by rw [HP.out, if_neg (fun g => hts g.2)]))
      clear hts
      go_wp2_with (first
       | (go_at_call 37; (with_reducible refine (R _).mono ?_); rintro e w3 ⟨rfl, hb⟩; obtain ⟨b0, b1, b2, bf⟩ := HBX.out.on hb; have HR3 := Lib.hid (HR0.out.on hb); have HB3 := Lib.hid (HW0.out.trans (hb.mono HW0.out.size)); clear hb R)
       | (go_at_call 38; (with_reducible refine (T _).mono ?_); rintro e w4 ⟨rfl, hb⟩; obtain ⟨r0, r1, r2, rf⟩ := HR3.out.on hb; have HB4 := Lib.hid (HB3.out.trans (hb.mono HB3.out.size)); clear hb T))
      obtain ⟨k0, k1, k2⟩ := BoxQ.put ⟨r0, r1, r2, rf⟩ ⟨#[]⟩ ⟨#[]⟩ ⟨#[]⟩
      exact bodyPost_ret (v := .tuple #[.agg #[.string ⟨#[]⟩, .string ⟨#[]⟩, .string ⟨#[]⟩], .bool false]) (by simp [results, Tryz.results80, go_sem, k0, k1, k2]) rfl (G.out _ (putQ3_below HB4.out (Nat.le_refl _) _ _ _))
   ·
    have hOp : 0 < O.size := by omega
    obtain ⟨q, hVq⟩ : ∃ q, V.size = q + 1 := ⟨V.size - 1, by omega⟩
    have HK : Hid (readL ls = (n.data.toList, (O.extract 1 O.size).data.toList, (V.extract 0 q).data.toList)) := Lib.hid (by
     rw [HRL.out, if_pos ⟨fun e => hO0 (by rw [sizeOf, e]; rfl), fun e => hV0 (by rw [sizeOf, e]; rfl)⟩, ext_end, extL, List.drop_one, List.drop_zero, Nat.sub_zero, List.dropLast_eq_take, ← sizeOf, hVq]
     rfl)
    clear HRL hO0 hV0
    obtain ⟨rb, t, R, T, HP⟩ := KEY.out _ _ HK.out (by rw [ByteArray.size_extract]; omega) (by rw [ByteArray.size_extract]; omega)
    go_upto_if 28 with fail
    go_wp2
    go_region
    have BX := (BoxQ.new w1 n (O.extract 1 O.size) (V.extract 0 q) 46).on (Below.refl _ _).drew
    have B0 := ((Below.refl w1.heap.size w1).alloc (Nat.le_refl _) (.cells #[.string n, .string (O.extract 1 O.size), .string (V.extract 0 q)] 46)).drew
    have HBX := Lib.hid (BX)
    have HR0 := Lib.hid (HRES.out.on B0)
    have HW0 := Lib.hid (HW.out.trans (B0.mono (by omega)))
    have hw0 := B0.size
    clear BX B0
    cases rb with
    | false =>
     have G := Lib.hid (fun w' => HNO.out w' (by rw [HP.out, if_neg (by simp)]))
     clear T
     go_wp2_with (first
      | (go_at_call 37; (with_reducible refine (R _).mono ?_); rintro e w3 ⟨rfl, hb⟩; obtain ⟨r0, r1, r2, rf⟩ := HR0.out.on hb; have HB3 := Lib.hid (HW0.out.trans (hb.mono HW0.out.size)); clear hb))
     obtain ⟨k0, k1, k2⟩ := BoxQ.put ⟨r0, r1, r2, rf⟩ ⟨#[]⟩ ⟨#[]⟩ ⟨#[]⟩
     exact bodyPost_ret (v := .tuple #[.agg #[.string ⟨#[]⟩, .string ⟨#[]⟩, .string ⟨#[]⟩], .bool false]) (by simp [results, Tryz.results80, go_sem, k0, k1, k2]) rfl (G.out _ (putQ3_below HB3.out (Nat.le_refl _) _ _ _))
    | true =>
     have hq := eqT t s
     by_cases hts : t.data.toList = s.data.toList
     ·
      rw [decide_eq_true hts] at hq
      have G := Lib.hid (fun w' => HYES.out (O.extract 1 O.size) (V.extract 0 q) w' (by rw [HP.out, if_pos ⟨rfl, hts⟩]))
      clear hts
      go_wp2_with (first
       | (go_at_call 37; (with_reducible refine (R _).mono ?_); rintro e w3 ⟨rfl, hb⟩; obtain ⟨b0, b1, b2, bf⟩ := HBX.out.on hb; have HBX3 := Lib.hid (HBX.out.on hb); have HR3 := Lib.hid (HR0.out.on hb); have HB3 := Lib.hid (HW0.out.trans (hb.mono HW0.out.size)); clear hb R)
       | (go_at_call 38; (with_reducible refine (T _).mono ?_); rintro e w4 ⟨rfl, hb⟩; obtain ⟨d0, d1, d2, df⟩ := HBX3.out.on hb; obtain ⟨r0, r1, r2, rf⟩ := HR3.out.on hb; have HB4 := Lib.hid (HB3.out.trans (hb.mono HB3.out.size)); clear hb T))
      obtain ⟨k0, k1, k2⟩ := BoxQ.put ⟨r0, r1, r2, rf⟩ n (O.extract 1 O.size) (V.extract 0 q)
      exact bodyPost_ret (v := .tuple #[.agg #[.string n, .string (O.extract 1 O.size), .string (V.extract 0 q)], .bool true]) (by simp [results, Tryz.results80, go_sem, k0, k1, k2]) rfl (G.out _ (putQ3_below HB4.out (Nat.le_refl _) _ _ _))
     ·
      rw [decide_eq_false hts] at hq
      have G := Lib.hid (fun w' => HNO.out w' (by rw [HP.out, if_neg (fun g => hts g.2)]))
      clear hts
      go_wp2_with (first
       | (go_at_call 37; (with_reducible refine (R _).mono ?_); rintro e w3 ⟨rfl, hb⟩; obtain ⟨b0, b1, b2, bf⟩ := HBX.out.on hb; have HR3 := Lib.hid (HR0.out.on hb); have HB3 := Lib.hid (HW0.out.trans (hb.mono HW0.out.size)); clear hb R)
       | (go_at_call 38; (with_reducible refine (T _).mono ?_); rintro e w4 ⟨rfl, hb⟩; obtain ⟨r0, r1, r2, rf⟩ := HR3.out.on hb; have HB4 := Lib.hid (HB3.out.trans (hb.mono HB3.out.size)); clear hb T))
      obtain ⟨k0, k1, k2⟩ := BoxQ.put ⟨r0, r1, r2, rf⟩ ⟨#[]⟩ ⟨#[]⟩ ⟨#[]⟩
      exact bodyPost_ret (v := .tuple #[.agg #[.string ⟨#[]⟩, .string ⟨#[]⟩, .string ⟨#[]⟩], .bool false]) (by simp [results, Tryz.results80, go_sem, k0, k1, k2]) rfl (G.out _ (putQ3_below HB4.out (Nat.le_refl _) _ _ _))
 ·
  have HK : Hid (readL ls = (n.data.toList, (⟨#[]⟩ : ByteArray).data.toList, (⟨#[]⟩ : ByteArray).data.toList)) := Lib.hid (readL_other (by rw [HM.out]; exact hm3) HN0.out)
  obtain ⟨rb, t, R, T, HP⟩ := KEY.out ⟨#[]⟩ ⟨#[]⟩ HK.out (by decide) (by decide)
  have BX := BoxQ.new w1 n ⟨#[]⟩ ⟨#[]⟩ 46
  have B0 := (Below.refl w1.heap.size w1).alloc (Nat.le_refl _) (.cells #[.string n, .string ⟨#[]⟩, .string ⟨#[]⟩] 46)
  have HBX := Lib.hid (BX)
  have HR0 := Lib.hid (HRES.out.on B0)
  have HW0 := Lib.hid (HW.out.trans (B0.mono (by omega)))
  have hw0 := B0.size
  clear BX B0
  cases rb with
  | false =>
   have G := Lib.hid (fun w' => HNO.out w' (by rw [HP.out, if_neg (by simp)]))
   clear T
   go_wp2_with (first
    | (go_at_call 37; (with_reducible refine (R _).mono ?_); rintro e w3 ⟨rfl, hb⟩; obtain ⟨r0, r1, r2, rf⟩ := HR0.out.on hb; have HB3 := Lib.hid (HW0.out.trans (hb.mono HW0.out.size)); clear hb))
   obtain ⟨k0, k1, k2⟩ := BoxQ.put ⟨r0, r1, r2, rf⟩ ⟨#[]⟩ ⟨#[]⟩ ⟨#[]⟩
   exact bodyPost_ret (v := .tuple #[.agg #[.string ⟨#[]⟩, .string ⟨#[]⟩, .string ⟨#[]⟩], .bool false]) (by simp [results, Tryz.results80, go_sem, k0, k1, k2]) rfl (G.out _ (putQ3_below HB3.out (Nat.le_refl _) _ _ _))
  | true =>
   have hq := eqT t s
   by_cases hts : t.data.toList = s.data.toList
   ·
    rw [decide_eq_true hts] at hq
    have G := Lib.hid (fun w' => HYES.out ⟨#[]⟩ ⟨#[]⟩ w' (by rw [HP.out, if_pos ⟨rfl, hts⟩]))
    clear hts
    go_wp2_with (first
     | (go_at_call 37; (with_reducible refine (R _).mono ?_); rintro e w3 ⟨rfl, hb⟩; obtain ⟨b0, b1, b2, bf⟩ := HBX.out.on hb; have HBX3 := Lib.hid (HBX.out.on hb); have HR3 := Lib.hid (HR0.out.on hb); have HB3 := Lib.hid (HW0.out.trans (hb.mono HW0.out.size)); clear hb R)
     | (go_at_call 38; (with_reducible refine (T _).mono ?_); rintro e w4 ⟨rfl, hb⟩; obtain ⟨d0, d1, d2, df⟩ := HBX3.out.on hb; obtain ⟨r0, r1, r2, rf⟩ := HR3.out.on hb; have HB4 := Lib.hid (HB3.out.trans (hb.mono HB3.out.size)); clear hb T))
    obtain ⟨k0, k1, k2⟩ := BoxQ.put ⟨r0, r1, r2, rf⟩ n ⟨#[]⟩ ⟨#[]⟩
    exact bodyPost_ret (v := .tuple #[.agg #[.string n, .string ⟨#[]⟩, .string ⟨#[]⟩], .bool true]) (by simp [results, Tryz.results80, go_sem, k0, k1, k2]) rfl (G.out _ (putQ3_below HB4.out (Nat.le_refl _) _ _ _))
   ·
    rw [decide_eq_false hts] at hq
    have G := Lib.hid (fun w' => HNO.out w' (by rw [HP.out, if_neg (fun g => hts g.2)]))
    clear hts
    go_wp2_with (first
     | (go_at_call 37; (with_reducible refine (R _).mono ?_); rintro e w3 ⟨rfl, hb⟩; obtain ⟨b0, b1, b2, bf⟩ := HBX.out.on hb; have HR3 := Lib.hid (HR0.out.on hb); have HB3 := Lib.hid (HW0.out.trans (hb.mono HW0.out.size)); clear hb R)
     | (go_at_call 38; (with_reducible refine (T _).mono ?_); rintro e w4 ⟨rfl, hb⟩; obtain ⟨r0, r1, r2, rf⟩ := HR3.out.on hb; have HB4 := Lib.hid (HB3.out.trans (hb.mono HB3.out.size)); clear hb T))
    obtain ⟨k0, k1, k2⟩ := BoxQ.put ⟨r0, r1, r2, rf⟩ ⟨#[]⟩ ⟨#[]⟩ ⟨#[]⟩
    exact bodyPost_ret (v := .tuple #[.agg #[.string ⟨#[]⟩, .string ⟨#[]⟩, .string ⟨#[]⟩], .bool false]) (by simp [results, Tryz.results80, go_sem, k0, k1, k2]) rfl (G.out _ (putQ3_below HB4.out (Nat.le_refl _) _ _ _))
end Go.Proofs.YtkbkaeefdhkgdaaGreatDoor
