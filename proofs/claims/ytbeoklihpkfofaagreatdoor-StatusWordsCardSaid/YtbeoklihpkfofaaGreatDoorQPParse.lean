/-
  The reference's Parse of a relation: what it returns; nothing old turns. Texts cut at a separator of several bytes, and joined again; nothing of the program. The program's Parse of a relation: what it returns; nothing old turns. Condition: LaidQ.
-/
import Derived.Test.YtbeoklihpkfofaaGreatDoorQRight
import Derived.BigRegion
import Derived.Test.YtbeoklihpkfofaaGreatDoorQMath
import Derived.Lib.Split
import Derived.Lib.Join
import Derived.Test.YtbeoklihpkfofaaGreatDoorQPRight
namespace Go.Proofs.YtbeoklihpkfofaaGreatDoor
open Go.RowKit
theorem ext_end (s : ByteArray) (k : Nat) : (s.extract k s.size).data.toList = s.data.toList.drop k := by
  rw [extL, List.take_of_length_le (by rw [List.length_drop, ← sizeOf]; omega)]
def relV (x : Rl) : Value := .agg #[.string ⟨x.1.toArray⟩, .string ⟨x.2.1.toArray⟩, .string ⟨x.2.2.toArray⟩]
def parsedR (o : Option Rl) : Value := match o with
  | some x => .tuple #[relV x, .bool true]
  | none => .tuple #[relV ([], [], []), .bool false]
def ParsePost7 (s : Bs) (w : World) (e : Ending) (w' : World) : Prop := e = .returned (parsedR (parseR s)) ∧ Below w.heap.size w w'
/-- A box of three texts that may be written. -/
structure BoxQ (w : World) (b : Nat) (x y z : ByteArray) : Prop where
  c0 : w.cell? ⟨b, 0, none⟩ = some (.string x)
  c1 : w.cell? ⟨b, 1, none⟩ = some (.string y)
  c2 : w.cell? ⟨b, 2, none⟩ = some (.string z)
  f : ∀ i, w.frozen? ⟨b, i, none⟩ = false
theorem BoxQ.new (A : World) (x y z : ByteArray) (t : TypeId) : BoxQ (A.alloc (.cells #[.string x, .string y, .string z] t)) A.heap.size x y z :=
  ⟨(box3New A x y z t).1, (box3New A x y z t).2.1, (box3New A x y z t).2.2, fun i => frozen_of_row _ A.heap.size i _ t (heap_alloc_new A _)⟩
theorem BoxQ.on {A B : World} {b : Nat} {x y z : ByteArray} (h : BoxQ A b x y z) (hb : Below A.heap.size A B) : BoxQ B b x y z := by
  have hlt := World.block_lt_of_cell? A _ h.c0
  have k := fun o => hb.cell (p := ⟨b, o, none⟩) hlt
  exact ⟨by rw [k]; exact h.c0, by rw [k]; exact h.c1, by rw [k]; exact h.c2, fun i => by rw [hb.frozen (p := ⟨b, i, none⟩) hlt]; exact h.f i⟩
abbrev putQ3 (w : World) (b : Nat) (x y z : ByteArray) : World := ((w.setCell ⟨b, 0, none⟩ (.string x)).setCell ⟨b, 1, none⟩ (.string y)).setCell ⟨b, 2, none⟩ (.string z)
theorem BoxQ.put {w : World} {b : Nat} {x y z : ByteArray} (h : BoxQ w b x y z) (x' y' z' : ByteArray) : (putQ3 w b x' y' z').cell? ⟨b, 0, none⟩ = some (.string x') ∧ (putQ3 w b x' y' z').cell? ⟨b, 1, none⟩ = some (.string y') ∧ (putQ3 w b x' y' z').cell? ⟨b, 2, none⟩ = some (.string z') := by
  have o : ∀ (A : World) (i j : Nat) (u v : Value), i ≠ j → A.cell? ⟨b, j, none⟩ = some v → (A.setCell ⟨b, i, none⟩ u).cell? ⟨b, j, none⟩ = some v := fun A i j u v hij hv => (World.cell?_setCell_other _ _ _ _ (fun e => hij (congrArg Addr.off e))).trans hv
  have s0 : ∀ (A : World) (i : Nat) (u v : Value), A.cell? ⟨b, i, none⟩ = some v → (A.setCell ⟨b, i, none⟩ u).cell? ⟨b, i, none⟩ = some u := fun A i u v hv => World.cell?_setCell_same _ _ _ hv
  exact ⟨o _ 2 0 _ _ (by omega) (o _ 1 0 _ _ (by omega) (s0 _ 0 _ _ h.c0)), o _ 2 1 _ _ (by omega) (s0 _ 1 _ _ (o _ 0 1 _ _ (by omega) h.c1)), s0 _ 2 _ _ (o _ 1 2 _ _ (by omega) (o _ 0 2 _ _ (by omega) h.c2))⟩
theorem putQ3_below {B : Nat} {w0 w : World} {b : Nat} (h : Below B w0 w) (hb : B ≤ b) (x y z : ByteArray) : Below B w0 (putQ3 w b x y z) := ((h.setCell (p := ⟨b, 0, none⟩) hb _).setCell (p := ⟨b, 1, none⟩) hb _).setCell (p := ⟨b, 2, none⟩) hb _
set_option maxRecDepth 100000 in
set_option maxHeartbeats 8000000 in
theorem parse_ref7 (s : ByteArray) (hs : s.size ≤ 4000) (w : World) : Calls Tryz.prog 115 #[.string s] w (ParsePost7 s.data.toList w) := by
  have C : ∀ w, Calls Tryz.prog 68 #[.string s, .int .u8 32] w fun e w' => ∃ v, e = .returned v ∧ OwnT w' w.heap.size v (spl 32 s.data.toList) ∧ Below w.heap.size w w' := fun w => split_ref6 s (by omega) 32 w
  have hne := spl_ne 32 s.data.toList
  have hpc : ∀ p ∈ spl 32 s.data.toList, p.length ≤ 4000 := fun p hp => by have := spl_piece 32 s.data.toList p hp; rw [← sizeOf] at this; omega
  have hln := spl_len 32 s.data.toList
  rw [← sizeOf] at hln
  obtain ⟨ls, hls⟩ : ∃ ls, spl 32 s.data.toList = ls := ⟨_, rfl⟩
  have HRD : Hid (readR s.data.toList = readL ls) := Lib.hid (by unfold readR; rw [hls])
  rw [hls] at C hne hpc hln
  have HPC := Lib.hid hpc
  obtain ⟨m, hm⟩ : ∃ m, ls.length = m := ⟨_, rfl⟩
  rw [hm] at hln
  have hm0 : 0 < m := by rw [← hm]; exact List.length_pos_iff.2 hne
  have HM := Lib.hid hm
  clear hls hne hpc hm
  go_enter Tryz.func115, Tryz.ntmps115
  go_wp2_with (go_at_call 68; (with_reducible refine (C _).mono ?_); rintro e w1 ⟨v1, rfl, ho, hb⟩; obtain ⟨al, cl, bl, ol, rfl, hcl, hal, hlc⟩ := ho.holds; have HLC := Lib.hid hlc; have HB1 := Lib.hid hb; rw [HM.out]; rw [HM.out] at hcl hal; clear ho hlc hb C; refine Hid.out ?_)
  refine Lib.hid ?_
  obtain ⟨rfl, hbl⟩ := hal hm0
  obtain ⟨n, hn⟩ : ∃ n : ByteArray, n.data.toList = ls[0]'(by rw [HM.out]; exact hm0) := ⟨⟨(ls[0]'(by rw [HM.out]; exact hm0)).toArray⟩, by simp⟩
  have hc0 : w1.cell? ⟨bl, ol, none⟩ = some (.string n) := by
    have := HLC.out 0 _ (List.getElem?_eq_getElem (by rw [HM.out]; exact hm0))
    rw [Nat.add_zero, ← hn, ← strOf (x := n) rfl] at this; exact this
  have hns : n.size ≤ 4000 := by rw [sizeOf, hn]; exact HPC.out _ (List.getElem_mem _)
  have HRES := Lib.hid ((BoxQ.new w ⟨#[]⟩ ⟨#[]⟩ ⟨#[]⟩ 57).on HB1.out)
  have KEY : Hid (∀ (X Y : ByteArray), readL ls = (n.data.toList, X.data.toList, Y.data.toList) → X.size ≤ 4000 → Y.size ≤ 4000 → ∃ (rb : Bool) (t : ByteArray), (∀ w, Calls Tryz.prog 73 #[.agg #[.string n, .string X, .string Y]] w fun e w' => e = .returned (.bool rb) ∧ Below w.heap.size w w') ∧ (∀ w, Calls Tryz.prog 74 #[.agg #[.string n, .string X, .string Y]] w fun e w' => e = .returned (.string t) ∧ Below w.heap.size w w') ∧ Hid (parseR s.data.toList = if rb = true ∧ t.data.toList = s.data.toList then some (n.data.toList, X.data.toList, Y.data.toList) else none)) := Lib.hid (fun X Y h hX hY => ⟨_, _, fun w => rightQ_ref n X Y (by omega) hY w, fun w => text_ref7 n X Y (by omega) (by omega) (by omega) w, Lib.hid (by unfold parseR; rw [HRD.out, h])⟩)
  have HW : Hid (Below w.heap.size w w1) := Lib.hid (((Below.refl w.heap.size w).alloc (Nat.le_refl _) _).trans (HB1.out.mono (by simp)))
  have hwz : w.heap.size < w1.heap.size := by have := HB1.out.size; simp only [World.size_alloc] at this; omega
  have HYES : Hid (∀ (X Y : ByteArray) w', parseR s.data.toList = some (n.data.toList, X.data.toList, Y.data.toList) → Below w.heap.size w w' → ParsePost7 s.data.toList w (.returned (.tuple #[.agg #[.string n, .string X, .string Y], .bool true])) w') := Lib.hid (fun X Y w' h hb => ⟨by rw [h]; rfl, hb⟩)
  have HNO : Hid (∀ w', parseR s.data.toList = none → Below w.heap.size w w' → ParsePost7 s.data.toList w (.returned (.tuple #[.agg #[.string ⟨#[]⟩, .string ⟨#[]⟩, .string ⟨#[]⟩], .bool false])) w') := Lib.hid (fun w' h hb => ⟨by rw [h]; rfl, hb⟩)
  clear HRD
  have HNL := Lib.hid hn
  have hn0 : ls[0]? = some n.data.toList := by rw [hn]; exact List.getElem?_eq_getElem _
  have HN0 := Lib.hid hn0
  clear hn hn0
  by_cases hm3 : m = 3
  · subst hm3
    obtain ⟨O, hO⟩ : ∃ O : ByteArray, O.data.toList = ls[1]'(by rw [HM.out]; omega) := ⟨⟨(ls[1]'(by rw [HM.out]; omega)).toArray⟩, by simp⟩
    obtain ⟨V, hV⟩ : ∃ V : ByteArray, V.data.toList = ls[2]'(by rw [HM.out]; omega) := ⟨⟨(ls[2]'(by rw [HM.out]; omega)).toArray⟩, by simp⟩
    have hO1 : ls[1]? = some O.data.toList := by rw [hO]; exact List.getElem?_eq_getElem _
    have hV1 : ls[2]? = some V.data.toList := by rw [hV]; exact List.getElem?_eq_getElem _
    have HRL := Lib.hid (readL_three HM.out HN0.out hO1 hV1)
    have hc1 : w1.cell? ⟨bl, ol + 1, none⟩ = some (.string O) := by have := HLC.out 1 _ hO1; rw [← strOf (x := O) rfl] at this; exact this
    have hc2 : w1.cell? ⟨bl, ol + 2, none⟩ = some (.string V) := by have := HLC.out 2 _ hV1; rw [← strOf (x := V) rfl] at this; exact this
    have hal1 : ∀ (o : Obj) (i : Nat), (w1.alloc o).cell? ⟨bl, i, none⟩ = w1.cell? ⟨bl, i, none⟩ := fun o i => ((Below.refl w1.heap.size w1).alloc (Nat.le_refl _) o).cell (p := ⟨bl, i, none⟩) hbl
    have hOs : O.size ≤ 4000 := by rw [sizeOf, hO]; exact HPC.out _ (List.getElem_mem _)
    have hVs : V.size ≤ 4000 := by rw [sizeOf, hV]; exact HPC.out _ (List.getElem_mem _)
    clear hO hV hO1 hV1
    by_cases hO0 : O.size = 0
    · have hOn : O.data.toList = [] := List.eq_nil_of_length_eq_zero (by rw [← sizeOf]; exact hO0)
      have HK : Hid (readL ls = (n.data.toList, (⟨#[]⟩ : ByteArray).data.toList, (⟨#[]⟩ : ByteArray).data.toList)) := Lib.hid (by rw [HRL.out, if_neg (fun g => g.1 hOn)])
      clear hOn HRL
      obtain ⟨rb, t, R, T, HP⟩ := KEY.out ⟨#[]⟩ ⟨#[]⟩ HK.out (by decide) (by decide)
      have BX := BoxQ.new w1 n ⟨#[]⟩ ⟨#[]⟩ 57
      have B0 := (Below.refl w1.heap.size w1).alloc (Nat.le_refl _) (.cells #[.string n, .string ⟨#[]⟩, .string ⟨#[]⟩] 57)
      have HBX := Lib.hid (BX)
      have HR0 := Lib.hid (HRES.out.on B0)
      have HW0 := Lib.hid (HW.out.trans (B0.mono (by omega)))
      have hw0 := B0.size
      clear BX B0
      cases rb with
      | false =>
        have G := Lib.hid (fun w' => HNO.out w' (by rw [HP.out, if_neg (by simp)]))
        clear T
        go_wp2_with (first
          | (go_at_call 73; (with_reducible refine (R _).mono ?_); rintro e w3 ⟨rfl, hb⟩; obtain ⟨r0, r1, r2, rf⟩ := HR0.out.on hb; have HB3 := Lib.hid (HW0.out.trans (hb.mono HW0.out.size)); clear hb))
        obtain ⟨k0, k1, k2⟩ := BoxQ.put ⟨r0, r1, r2, rf⟩ ⟨#[]⟩ ⟨#[]⟩ ⟨#[]⟩
        exact bodyPost_ret (v := .tuple #[.agg #[.string ⟨#[]⟩, .string ⟨#[]⟩, .string ⟨#[]⟩], .bool false]) (by simp [results, Tryz.results115, go_sem, k0, k1, k2]) rfl (G.out _ (putQ3_below HB3.out (Nat.le_refl _) _ _ _))
      | true =>
        have hq := eqT t s
        by_cases hts : t.data.toList = s.data.toList
        · rw [decide_eq_true hts] at hq
          have G := Lib.hid (fun w' => HYES.out ⟨#[]⟩ ⟨#[]⟩ w' (by rw [HP.out, if_pos ⟨rfl, hts⟩]))
          clear hts
          go_wp2_with (first
            | (go_at_call 73; (with_reducible refine (R _).mono ?_); rintro e w3 ⟨rfl, hb⟩; obtain ⟨b0, b1, b2, bf⟩ := HBX.out.on hb; have HBX3 := Lib.hid (HBX.out.on hb); have HR3 := Lib.hid (HR0.out.on hb); have HB3 := Lib.hid (HW0.out.trans (hb.mono HW0.out.size)); clear hb R)
            | (go_at_call 74; (with_reducible refine (T _).mono ?_); rintro e w4 ⟨rfl, hb⟩; obtain ⟨d0, d1, d2, df⟩ := HBX3.out.on hb; obtain ⟨r0, r1, r2, rf⟩ := HR3.out.on hb; have HB4 := Lib.hid (HB3.out.trans (hb.mono HB3.out.size)); clear hb T))
          obtain ⟨k0, k1, k2⟩ := BoxQ.put ⟨r0, r1, r2, rf⟩ n ⟨#[]⟩ ⟨#[]⟩
          exact bodyPost_ret (v := .tuple #[.agg #[.string n, .string ⟨#[]⟩, .string ⟨#[]⟩], .bool true]) (by simp [results, Tryz.results115, go_sem, k0, k1, k2]) rfl (G.out _ (putQ3_below HB4.out (Nat.le_refl _) _ _ _))
        · rw [decide_eq_false hts] at hq
          have G := Lib.hid (fun w' => HNO.out w' (by rw [HP.out, if_neg (fun g => hts g.2)]))
          clear hts
          go_wp2_with (first
            | (go_at_call 73; (with_reducible refine (R _).mono ?_); rintro e w3 ⟨rfl, hb⟩; obtain ⟨b0, b1, b2, bf⟩ := HBX.out.on hb; have HR3 := Lib.hid (HR0.out.on hb); have HB3 := Lib.hid (HW0.out.trans (hb.mono HW0.out.size)); clear hb R)
            | (go_at_call 74; (with_reducible refine (T _).mono ?_); rintro e w4 ⟨rfl, hb⟩; obtain ⟨r0, r1, r2, rf⟩ := HR3.out.on hb; have HB4 := Lib.hid (HB3.out.trans (hb.mono HB3.out.size)); clear hb T))
          obtain ⟨k0, k1, k2⟩ := BoxQ.put ⟨r0, r1, r2, rf⟩ ⟨#[]⟩ ⟨#[]⟩ ⟨#[]⟩
          exact bodyPost_ret (v := .tuple #[.agg #[.string ⟨#[]⟩, .string ⟨#[]⟩, .string ⟨#[]⟩], .bool false]) (by simp [results, Tryz.results115, go_sem, k0, k1, k2]) rfl (G.out _ (putQ3_below HB4.out (Nat.le_refl _) _ _ _))
    · by_cases hV0 : V.size = 0
      · have hVn : V.data.toList = [] := List.eq_nil_of_length_eq_zero (by rw [← sizeOf]; exact hV0)
        have HK : Hid (readL ls = (n.data.toList, (⟨#[]⟩ : ByteArray).data.toList, (⟨#[]⟩ : ByteArray).data.toList)) := Lib.hid (by rw [HRL.out, if_neg (fun g => g.2 hVn)])
        have hOp : 0 < O.size := by omega
        clear hVn HRL hO0
        obtain ⟨rb, t, R, T, HP⟩ := KEY.out ⟨#[]⟩ ⟨#[]⟩ HK.out (by decide) (by decide)
        have BX := BoxQ.new w1 n ⟨#[]⟩ ⟨#[]⟩ 57
        have B0 := (Below.refl w1.heap.size w1).alloc (Nat.le_refl _) (.cells #[.string n, .string ⟨#[]⟩, .string ⟨#[]⟩] 57)
        have HBX := Lib.hid (BX)
        have HR0 := Lib.hid (HRES.out.on B0)
        have HW0 := Lib.hid (HW.out.trans (B0.mono (by omega)))
        have hw0 := B0.size
        clear BX B0
        cases rb with
        | false =>
          have G := Lib.hid (fun w' => HNO.out w' (by rw [HP.out, if_neg (by simp)]))
          clear T
          go_wp2_with (first
            | (go_at_call 73; (with_reducible refine (R _).mono ?_); rintro e w3 ⟨rfl, hb⟩; obtain ⟨r0, r1, r2, rf⟩ := HR0.out.on hb; have HB3 := Lib.hid (HW0.out.trans (hb.mono HW0.out.size)); clear hb))
          obtain ⟨k0, k1, k2⟩ := BoxQ.put ⟨r0, r1, r2, rf⟩ ⟨#[]⟩ ⟨#[]⟩ ⟨#[]⟩
          exact bodyPost_ret (v := .tuple #[.agg #[.string ⟨#[]⟩, .string ⟨#[]⟩, .string ⟨#[]⟩], .bool false]) (by simp [results, Tryz.results115, go_sem, k0, k1, k2]) rfl (G.out _ (putQ3_below HB3.out (Nat.le_refl _) _ _ _))
        | true =>
          have hq := eqT t s
          by_cases hts : t.data.toList = s.data.toList
          · rw [decide_eq_true hts] at hq
            have G := Lib.hid (fun w' => HYES.out ⟨#[]⟩ ⟨#[]⟩ w' (by rw [HP.out, if_pos ⟨rfl, hts⟩]))
            clear hts
            go_wp2_with (first
              | (go_at_call 73; (with_reducible refine (R _).mono ?_); rintro e w3 ⟨rfl, hb⟩; obtain ⟨b0, b1, b2, bf⟩ := HBX.out.on hb; have HBX3 := Lib.hid (HBX.out.on hb); have HR3 := Lib.hid (HR0.out.on hb); have HB3 := Lib.hid (HW0.out.trans (hb.mono HW0.out.size)); clear hb R)
              | (go_at_call 74; (with_reducible refine (T _).mono ?_); rintro e w4 ⟨rfl, hb⟩; obtain ⟨d0, d1, d2, df⟩ := HBX3.out.on hb; obtain ⟨r0, r1, r2, rf⟩ := HR3.out.on hb; have HB4 := Lib.hid (HB3.out.trans (hb.mono HB3.out.size)); clear hb T))
            obtain ⟨k0, k1, k2⟩ := BoxQ.put ⟨r0, r1, r2, rf⟩ n ⟨#[]⟩ ⟨#[]⟩
            exact bodyPost_ret (v := .tuple #[.agg #[.string n, .string ⟨#[]⟩, .string ⟨#[]⟩], .bool true]) (by simp [results, Tryz.results115, go_sem, k0, k1, k2]) rfl (G.out _ (putQ3_below HB4.out (Nat.le_refl _) _ _ _))
          · rw [decide_eq_false hts] at hq
            have G := Lib.hid (fun w' => HNO.out w' (by rw [HP.out, if_neg (fun g => hts g.2)]))
            clear hts
            go_wp2_with (first
              | (go_at_call 73; (with_reducible refine (R _).mono ?_); rintro e w3 ⟨rfl, hb⟩; obtain ⟨b0, b1, b2, bf⟩ := HBX.out.on hb; have HR3 := Lib.hid (HR0.out.on hb); have HB3 := Lib.hid (HW0.out.trans (hb.mono HW0.out.size)); clear hb R)
              | (go_at_call 74; (with_reducible refine (T _).mono ?_); rintro e w4 ⟨rfl, hb⟩; obtain ⟨r0, r1, r2, rf⟩ := HR3.out.on hb; have HB4 := Lib.hid (HB3.out.trans (hb.mono HB3.out.size)); clear hb T))
            obtain ⟨k0, k1, k2⟩ := BoxQ.put ⟨r0, r1, r2, rf⟩ ⟨#[]⟩ ⟨#[]⟩ ⟨#[]⟩
            exact bodyPost_ret (v := .tuple #[.agg #[.string ⟨#[]⟩, .string ⟨#[]⟩, .string ⟨#[]⟩], .bool false]) (by simp [results, Tryz.results115, go_sem, k0, k1, k2]) rfl (G.out _ (putQ3_below HB4.out (Nat.le_refl _) _ _ _))
      · have hOp : 0 < O.size := by omega
        obtain ⟨q, hVq⟩ : ∃ q, V.size = q + 1 := ⟨V.size - 1, by omega⟩
        have HK : Hid (readL ls = (n.data.toList, (O.extract 1 O.size).data.toList, (V.extract 0 q).data.toList)) := Lib.hid (by
          rw [HRL.out, if_pos ⟨fun e => hO0 (by rw [sizeOf, e]; rfl), fun e => hV0 (by rw [sizeOf, e]; rfl)⟩, ext_end, extL, List.drop_one, List.drop_zero, Nat.sub_zero, List.dropLast_eq_take, ← sizeOf, hVq]
          rfl)
        clear HRL hO0 hV0
        obtain ⟨rb, t, R, T, HP⟩ := KEY.out _ _ HK.out (by rw [ByteArray.size_extract]; omega) (by rw [ByteArray.size_extract]; omega)
        go_upto_if 28 with fail
        go_wp2
        go_region
        have BX := (BoxQ.new w1 n (O.extract 1 O.size) (V.extract 0 q) 57).on (Below.refl _ _).drew
        have B0 := ((Below.refl w1.heap.size w1).alloc (Nat.le_refl _) (.cells #[.string n, .string (O.extract 1 O.size), .string (V.extract 0 q)] 57)).drew
        have HBX := Lib.hid (BX)
        have HR0 := Lib.hid (HRES.out.on B0)
        have HW0 := Lib.hid (HW.out.trans (B0.mono (by omega)))
        have hw0 := B0.size
        clear BX B0
        cases rb with
        | false =>
          have G := Lib.hid (fun w' => HNO.out w' (by rw [HP.out, if_neg (by simp)]))
          clear T
          go_wp2_with (first
            | (go_at_call 73; (with_reducible refine (R _).mono ?_); rintro e w3 ⟨rfl, hb⟩; obtain ⟨r0, r1, r2, rf⟩ := HR0.out.on hb; have HB3 := Lib.hid (HW0.out.trans (hb.mono HW0.out.size)); clear hb))
          obtain ⟨k0, k1, k2⟩ := BoxQ.put ⟨r0, r1, r2, rf⟩ ⟨#[]⟩ ⟨#[]⟩ ⟨#[]⟩
          exact bodyPost_ret (v := .tuple #[.agg #[.string ⟨#[]⟩, .string ⟨#[]⟩, .string ⟨#[]⟩], .bool false]) (by simp [results, Tryz.results115, go_sem, k0, k1, k2]) rfl (G.out _ (putQ3_below HB3.out (Nat.le_refl _) _ _ _))
        | true =>
          have hq := eqT t s
          by_cases hts : t.data.toList = s.data.toList
          · rw [decide_eq_true hts] at hq
            have G := Lib.hid (fun w' => HYES.out (O.extract 1 O.size) (V.extract 0 q) w' (by rw [HP.out, if_pos ⟨rfl, hts⟩]))
            clear hts
            go_wp2_with (first
              | (go_at_call 73; (with_reducible refine (R _).mono ?_); rintro e w3 ⟨rfl, hb⟩; obtain ⟨b0, b1, b2, bf⟩ := HBX.out.on hb; have HBX3 := Lib.hid (HBX.out.on hb); have HR3 := Lib.hid (HR0.out.on hb); have HB3 := Lib.hid (HW0.out.trans (hb.mono HW0.out.size)); clear hb R)
              | (go_at_call 74; (with_reducible refine (T _).mono ?_); rintro e w4 ⟨rfl, hb⟩; obtain ⟨d0, d1, d2, df⟩ := HBX3.out.on hb; obtain ⟨r0, r1, r2, rf⟩ := HR3.out.on hb; have HB4 := Lib.hid (HB3.out.trans (hb.mono HB3.out.size)); clear hb T))
            obtain ⟨k0, k1, k2⟩ := BoxQ.put ⟨r0, r1, r2, rf⟩ n (O.extract 1 O.size) (V.extract 0 q)
            exact bodyPost_ret (v := .tuple #[.agg #[.string n, .string (O.extract 1 O.size), .string (V.extract 0 q)], .bool true]) (by simp [results, Tryz.results115, go_sem, k0, k1, k2]) rfl (G.out _ (putQ3_below HB4.out (Nat.le_refl _) _ _ _))
          · rw [decide_eq_false hts] at hq
            have G := Lib.hid (fun w' => HNO.out w' (by rw [HP.out, if_neg (fun g => hts g.2)]))
            clear hts
            go_wp2_with (first
              | (go_at_call 73; (with_reducible refine (R _).mono ?_); rintro e w3 ⟨rfl, hb⟩; obtain ⟨b0, b1, b2, bf⟩ := HBX.out.on hb; have HR3 := Lib.hid (HR0.out.on hb); have HB3 := Lib.hid (HW0.out.trans (hb.mono HW0.out.size)); clear hb R)
              | (go_at_call 74; (with_reducible refine (T _).mono ?_); rintro e w4 ⟨rfl, hb⟩; obtain ⟨r0, r1, r2, rf⟩ := HR3.out.on hb; have HB4 := Lib.hid (HB3.out.trans (hb.mono HB3.out.size)); clear hb T))
            obtain ⟨k0, k1, k2⟩ := BoxQ.put ⟨r0, r1, r2, rf⟩ ⟨#[]⟩ ⟨#[]⟩ ⟨#[]⟩
            exact bodyPost_ret (v := .tuple #[.agg #[.string ⟨#[]⟩, .string ⟨#[]⟩, .string ⟨#[]⟩], .bool false]) (by simp [results, Tryz.results115, go_sem, k0, k1, k2]) rfl (G.out _ (putQ3_below HB4.out (Nat.le_refl _) _ _ _))
  · have HK : Hid (readL ls = (n.data.toList, (⟨#[]⟩ : ByteArray).data.toList, (⟨#[]⟩ : ByteArray).data.toList)) := Lib.hid (readL_other (by rw [HM.out]; exact hm3) HN0.out)
    obtain ⟨rb, t, R, T, HP⟩ := KEY.out ⟨#[]⟩ ⟨#[]⟩ HK.out (by decide) (by decide)
    have BX := BoxQ.new w1 n ⟨#[]⟩ ⟨#[]⟩ 57
    have B0 := (Below.refl w1.heap.size w1).alloc (Nat.le_refl _) (.cells #[.string n, .string ⟨#[]⟩, .string ⟨#[]⟩] 57)
    have HBX := Lib.hid (BX)
    have HR0 := Lib.hid (HRES.out.on B0)
    have HW0 := Lib.hid (HW.out.trans (B0.mono (by omega)))
    have hw0 := B0.size
    clear BX B0
    cases rb with
    | false =>
      have G := Lib.hid (fun w' => HNO.out w' (by rw [HP.out, if_neg (by simp)]))
      clear T
      go_wp2_with (first
        | (go_at_call 73; (with_reducible refine (R _).mono ?_); rintro e w3 ⟨rfl, hb⟩; obtain ⟨r0, r1, r2, rf⟩ := HR0.out.on hb; have HB3 := Lib.hid (HW0.out.trans (hb.mono HW0.out.size)); clear hb))
      obtain ⟨k0, k1, k2⟩ := BoxQ.put ⟨r0, r1, r2, rf⟩ ⟨#[]⟩ ⟨#[]⟩ ⟨#[]⟩
      exact bodyPost_ret (v := .tuple #[.agg #[.string ⟨#[]⟩, .string ⟨#[]⟩, .string ⟨#[]⟩], .bool false]) (by simp [results, Tryz.results115, go_sem, k0, k1, k2]) rfl (G.out _ (putQ3_below HB3.out (Nat.le_refl _) _ _ _))
    | true =>
      have hq := eqT t s
      by_cases hts : t.data.toList = s.data.toList
      · rw [decide_eq_true hts] at hq
        have G := Lib.hid (fun w' => HYES.out ⟨#[]⟩ ⟨#[]⟩ w' (by rw [HP.out, if_pos ⟨rfl, hts⟩]))
        clear hts
        go_wp2_with (first
          | (go_at_call 73; (with_reducible refine (R _).mono ?_); rintro e w3 ⟨rfl, hb⟩; obtain ⟨b0, b1, b2, bf⟩ := HBX.out.on hb; have HBX3 := Lib.hid (HBX.out.on hb); have HR3 := Lib.hid (HR0.out.on hb); have HB3 := Lib.hid (HW0.out.trans (hb.mono HW0.out.size)); clear hb R)
          | (go_at_call 74; (with_reducible refine (T _).mono ?_); rintro e w4 ⟨rfl, hb⟩; obtain ⟨d0, d1, d2, df⟩ := HBX3.out.on hb; obtain ⟨r0, r1, r2, rf⟩ := HR3.out.on hb; have HB4 := Lib.hid (HB3.out.trans (hb.mono HB3.out.size)); clear hb T))
        obtain ⟨k0, k1, k2⟩ := BoxQ.put ⟨r0, r1, r2, rf⟩ n ⟨#[]⟩ ⟨#[]⟩
        exact bodyPost_ret (v := .tuple #[.agg #[.string n, .string ⟨#[]⟩, .string ⟨#[]⟩], .bool true]) (by simp [results, Tryz.results115, go_sem, k0, k1, k2]) rfl (G.out _ (putQ3_below HB4.out (Nat.le_refl _) _ _ _))
      · rw [decide_eq_false hts] at hq
        have G := Lib.hid (fun w' => HNO.out w' (by rw [HP.out, if_neg (fun g => hts g.2)]))
        clear hts
        go_wp2_with (first
          | (go_at_call 73; (with_reducible refine (R _).mono ?_); rintro e w3 ⟨rfl, hb⟩; obtain ⟨b0, b1, b2, bf⟩ := HBX.out.on hb; have HR3 := Lib.hid (HR0.out.on hb); have HB3 := Lib.hid (HW0.out.trans (hb.mono HW0.out.size)); clear hb R)
          | (go_at_call 74; (with_reducible refine (T _).mono ?_); rintro e w4 ⟨rfl, hb⟩; obtain ⟨r0, r1, r2, rf⟩ := HR3.out.on hb; have HB4 := Lib.hid (HB3.out.trans (hb.mono HB3.out.size)); clear hb T))
        obtain ⟨k0, k1, k2⟩ := BoxQ.put ⟨r0, r1, r2, rf⟩ ⟨#[]⟩ ⟨#[]⟩ ⟨#[]⟩
        exact bodyPost_ret (v := .tuple #[.agg #[.string ⟨#[]⟩, .string ⟨#[]⟩, .string ⟨#[]⟩], .bool false]) (by simp [results, Tryz.results115, go_sem, k0, k1, k2]) rfl (G.out _ (putQ3_below HB4.out (Nat.le_refl _) _ _ _))
end Go.Proofs.YtbeoklihpkfofaaGreatDoor
namespace Go.Proofs.YtbeoklihpkfofaaGreatDoor
open Go.RowKit Go.Lib
/-- Behind p, with the separator next, the first instance is right behind p. -/
def Apart (sep p : Bs) : Prop := ∀ r : Bs, index (p ++ (sep ++ r)) sep = p.length
def Lone (sep p : Bs) : Prop := index p sep = -1
theorem occ_head {s : Bs} {a : UInt8} {t : Bs} {j : Nat} (h : s[j]? ≠ some a) : occAt s (a :: t) j = false := by
  cases ho : occAt s (a :: t) j
  · rfl
  · exact absurd (occAt_head rfl ho) h
theorem occ_second {s : Bs} {a b : UInt8} {t : Bs} {j : Nat} (h : s[j + 1]? ≠ some b) : occAt s (a :: b :: t) j = false := by
  cases ho : occAt s (a :: b :: t) j
  · rfl
  · exfalso
    apply h
    unfold occAt at ho
    rw [List.isPrefixOf_iff_prefix] at ho
    obtain ⟨u, hu⟩ := ho
    have := congrArg (fun l => l[1]?) hu
    simp only [List.cons_append, List.getElem?_cons_succ, List.getElem?_cons_zero, List.getElem?_drop] at this
    exact this.symm
theorem occ_self (p sep r : Bs) : occAt (p ++ (sep ++ r)) sep p.length = true := by
  unfold occAt
  rw [List.drop_left, List.isPrefixOf_iff_prefix]
  exact List.prefix_append _ _
theorem get_lt {p q : Bs} {j : Nat} {c : UInt8} (h : j < p.length) (hc : c ∉ p) : (p ++ q)[j]? ≠ some c := by
  rw [List.getElem?_append_left h]
  intro e
  exact hc (List.mem_of_getElem? e)
theorem apart_first {a : UInt8} {t p : Bs} (h : a ∉ p) : Apart (a :: t) p := fun r => by
  refine index_first (by simp) (occ_self p (a :: t) r) (fun j hj => occ_head (get_lt hj h))
theorem apart_second {a b : UInt8} {t p : Bs} (h : b ∉ p) (hab : a ≠ b) : Apart (a :: b :: t) p := fun r => by
  refine index_first (by simp) (occ_self p (a :: b :: t) r) (fun j hj => occ_second ?_)
  by_cases e : j + 1 < p.length
  · exact get_lt e h
  · have : j + 1 = p.length := by omega
    rw [this, List.getElem?_append_right (Nat.le_refl _), Nat.sub_self]
    simp [hab]
theorem lone_first {a : UInt8} {t p : Bs} (h : a ∉ p) : Lone (a :: t) p := index_none (fun _ _ => occ_head (fun e => h (List.mem_of_getElem? e)))
theorem lone_second {a b : UInt8} {t p : Bs} (h : b ∉ p) : Lone (a :: b :: t) p := index_none (fun _ _ => occ_second (fun e => h (List.mem_of_getElem? e)))
theorem split_join (sep : Bs) (h0 : 0 < sep.length) : ∀ (ps : List Bs) (k : Nat), ps ≠ [] → ps.length ≤ k + 1 → (∀ p ∈ ps, Apart sep p ∧ Lone sep p) → splitK sep 0 k (Lib.join ps sep) = ps
  | [], _, h, _, _ => absurd rfl h
  | [p], k, _, _, h => by
    rw [join_one]
    cases k with
    | zero => rfl
    | succ k => rw [splitK, if_pos (by rw [(h p (by simp)).2]; rfl)]
  | p :: q :: ps, k, _, hk, h => by
    obtain ⟨k, rfl⟩ : ∃ k', k = k' + 1 := ⟨k - 1, by simp at hk; omega⟩
    have e : Lib.join (p :: q :: ps) sep = p ++ (sep ++ Lib.join (q :: ps) sep) := by
      rw [join_cons, join_cons]; simp [joinTail]
    have hi := (h p (by simp)).1 (Lib.join (q :: ps) sep)
    have ih := split_join sep h0 (q :: ps) k (by simp) (by simp at hk ⊢; omega) (fun x hx => h x (List.mem_cons_of_mem _ hx))
    rw [e, splitK, hi, if_neg (by intro g; have := beq_iff_eq.1 g; omega)]
    have e1 : ((p.length : Int).toNat + 0) = p.length := by omega
    rw [e1, List.take_left, show (p.length : Int).toNat + sep.length = p.length + sep.length by omega, ← List.drop_drop, List.drop_left, List.drop_left, ih]
theorem splitK_ne (sep : Bs) : ∀ (k : Nat) (s : Bs), splitK sep 0 k s ≠ []
  | 0, s => by simp [splitK]
  | k + 1, s => by rw [splitK]; split <;> simp
theorem join_split (sep : Bs) : ∀ (k : Nat) (s : Bs), Lib.join (splitK sep 0 k s) sep = s
  | 0, s => join_one _ _
  | k + 1, s => by
    rw [splitK]
    split
    · exact join_one _ _
    · rename_i h
      have hi : 0 ≤ index s sep := by
        have := index_ge s sep
        have : index s sep ≠ -1 := fun e => h (by rw [e]; rfl)
        omega
      obtain ⟨q, ps, hq⟩ : ∃ q ps, splitK sep 0 k (s.drop ((index s sep).toNat + sep.length)) = q :: ps := by
        cases hs : splitK sep 0 k (s.drop ((index s sep).toNat + sep.length)) with
        | nil => exact absurd hs (splitK_ne _ _ _)
        | cons q ps => exact ⟨q, ps, rfl⟩
      have ih := join_split sep k (s.drop ((index s sep).toNat + sep.length))
      rw [hq] at ih ⊢
      have e : ∀ p, Lib.join (p :: q :: ps) sep = p ++ (sep ++ Lib.join (q :: ps) sep) := fun p => by
        rw [join_cons, join_cons]; simp [joinTail]
      rw [e, ih, Nat.add_zero]
      rcases index_spec s sep with ⟨g, _⟩ | ⟨i, g, hle, ho, _⟩
      · omega
      · rw [g, show (i : Int).toNat = i by omega]
        unfold occAt at ho
        rw [List.isPrefixOf_iff_prefix] at ho
        obtain ⟨u, hu⟩ := ho
        rw [← List.drop_drop, ← hu, List.drop_left, hu, List.take_append_drop]
theorem splitK_len (sep : Bs) : ∀ (k : Nat) (s : Bs), (splitK sep 0 k s).length ≤ k + 1
  | 0, s => by simp [splitK]
  | k + 1, s => by
    rw [splitK]
    split
    · simp
    · have := splitK_len sep k (s.drop ((index s sep).toNat + sep.length))
      simp only [List.length_cons]; omega
theorem splitK_piece (sep : Bs) : ∀ (k : Nat) (s : Bs), ∀ p ∈ splitK sep 0 k s, p.length ≤ s.length
  | 0, s, p, hp => by simp [splitK] at hp; subst hp; exact Nat.le_refl _
  | k + 1, s, p, hp => by
    rw [splitK] at hp
    split at hp
    · simp at hp; subst hp; exact Nat.le_refl _
    · rcases List.mem_cons.1 hp with h | h
      · subst h; exact List.length_take_le' _ _
      · have := splitK_piece sep k _ p h
        rw [List.length_drop] at this; omega
/-- What the program's cut comes to. -/
def cutP {α : Type} (parse : Bs → Option α) (sep s : Bs) : Option (List α) := if 64 < (splitN s sep 65).length then none else (splitN s sep 65).mapM parse
theorem join_len (sep : Bs) : ∀ (ps : List Bs), ps.length ≤ (Lib.join ps sep).length + 1 ∨ sep = []
  | [] => .inl (by simp)
  | [p] => .inl (by simp)
  | p :: q :: ps => by
    rcases join_len sep (q :: ps) with h | h
    · by_cases hs : sep = []
      · exact .inr hs
      · left
        have e : Lib.join (p :: q :: ps) sep = p ++ (sep ++ Lib.join (q :: ps) sep) := by
          rw [join_cons, join_cons]; simp [joinTail]
        have : 0 < sep.length := List.length_pos_iff.2 hs
        rw [e, List.length_append, List.length_append]
        simp only [List.length_cons] at h ⊢; omega
    · exact .inr h
theorem mapM_text {α : Type} {parse : Bs → Option α} {text : α → Bs} : ∀ (xs : List α), (∀ x ∈ xs, parse (text x) = some x) → (xs.map text).mapM parse = some xs
  | [], _ => rfl
  | x :: xs, h => by
    rw [List.map_cons, List.mapM_cons, h x (by simp), mapM_text xs (fun y hy => h y (List.mem_cons_of_mem _ hy))]; rfl
theorem cutP_text {α : Type} {parse : Bs → Option α} {text : α → Bs} {sep : Bs} (h0 : 0 < sep.length) {xs : List α} (hne : xs ≠ []) (hl : xs.length ≤ 64) (hp : ∀ x ∈ xs, parse (text x) = some x) (ha : ∀ x ∈ xs, Apart sep (text x) ∧ Lone sep (text x)) : cutP parse sep (Lib.join (xs.map text) sep) = some xs := by
  have hj := join_len sep (xs.map text)
  rw [List.length_map] at hj
  have hj2 : xs.length ≤ (Lib.join (xs.map text) sep).length + 1 := by
    rcases hj with h | h
    · exact h
    · rw [h] at h0; simp at h0
  have hs : splitN (Lib.join (xs.map text) sep) sep 65 = xs.map text := by
    unfold splitN
    refine split_join sep h0 _ _ (by simpa using hne) (by rw [List.length_map]; omega) (fun p hp => ?_)
    obtain ⟨x, hx, rfl⟩ := List.mem_map.1 hp
    exact ha x hx
  unfold cutP
  rw [hs, if_neg (by rw [List.length_map]; omega)]
  exact mapM_text xs hp
theorem mapM_inv {α : Type} {parse : Bs → Option α} {text : α → Bs} (h : ∀ p x, parse p = some x → text x = p) : ∀ (ps : List Bs) (xs : List α), ps.mapM parse = some xs → xs.map text = ps ∧ ∀ x ∈ xs, ∃ p ∈ ps, parse p = some x
  | [], xs, hm => by simp at hm; subst hm; exact ⟨rfl, fun x hx => by simp at hx⟩
  | p :: ps, xs, hm => by
    rw [List.mapM_cons] at hm
    cases hp : parse p with
    | none => rw [hp] at hm; simp at hm
    | some x =>
      rw [hp] at hm
      cases hq : ps.mapM parse with
      | none => rw [hq] at hm; simp at hm
      | some ys =>
        rw [hq] at hm
        simp at hm
        subst hm
        obtain ⟨h1, h2⟩ := mapM_inv h ps ys hq
        refine ⟨by rw [List.map_cons, h p x hp, h1], fun y hy => ?_⟩
        rcases List.mem_cons.1 hy with e | e
        · subst e; exact ⟨p, by simp, hp⟩
        · obtain ⟨q, hq1, hq2⟩ := h2 y e
          exact ⟨q, List.mem_cons_of_mem _ hq1, hq2⟩
theorem cutP_inv {α : Type} {parse : Bs → Option α} {text : α → Bs} {sep s : Bs} {xs : List α} (h : ∀ p x, parse p = some x → text x = p) (hc : cutP parse sep s = some xs) : Lib.join (xs.map text) sep = s ∧ xs ≠ [] ∧ xs.length ≤ 64 ∧ ∀ x ∈ xs, ∃ p, parse p = some x := by
  unfold cutP at hc
  split at hc
  · cases hc
  · rename_i hl
    obtain ⟨h1, h2⟩ := mapM_inv h _ _ hc
    have hlen := congrArg List.length h1
    rw [List.length_map] at hlen
    refine ⟨by rw [h1]; exact join_split sep _ s, fun e => ?_, by omega, fun x hx => ?_⟩
    · subst e
      exact splitK_ne sep _ s (by unfold splitN at h1; exact h1.symm)
    · obtain ⟨p, _, hp⟩ := h2 x hx
      exact ⟨p, hp⟩
end Go.Proofs.YtbeoklihpkfofaaGreatDoor
namespace Go.Proofs.YtbeoklihpkfofaaGreatDoor
open Go.RowKit
/-- What the walks ask of the program's variables. -/
structure LaidQ (w : World) : Prop where
  v : LaidV w
  m : ∃ m, w.cell? ⟨1, 0, none⟩ = some (.int .i64 m)
theorem LaidQ.on {w w' : World} (h : LaidQ w) (hb : Below w.heap.size w w') : LaidQ w' := by
  obtain ⟨m, hm⟩ := h.m
  exact ⟨h.v.on hb, m, (hb.cell (World.block_lt_of_cell? w _ hm)).trans hm⟩
abbrev oRel : Obj := .cells #[.string ⟨#[]⟩, .string ⟨#[]⟩, .string ⟨#[]⟩] 57
def readP (s : Bs) : Rl := ((Lib.cut s [32, 40]).1, (Lib.cut (Lib.trimSuffix (Lib.cut s [32, 40]).2.1 [41]) [32]).1, (Lib.cut (Lib.trimSuffix (Lib.cut s [32, 40]).2.1 [41]) [32]).2.1)
theorem cut_lone {sep p : Bs} (h : Lone sep p) : Lib.cut p sep = (p, [], false) := by
  unfold Lib.cut; rw [h, if_neg (by decide)]
theorem cut_apart {sep p : Bs} (h : Apart sep p) (r : Bs) : Lib.cut (p ++ (sep ++ r)) sep = (p, r, true) := by
  unfold Lib.cut
  rw [h r, if_pos (by omega), show (p.length : Int).toNat = p.length by omega, List.take_left, ← List.drop_drop, List.drop_left, List.drop_left]
theorem trim_end (l : Bs) (c : UInt8) : Lib.trimSuffix (l ++ [c]) [c] = l := by
  unfold Lib.trimSuffix Lib.hasSuffix
  rw [if_pos (by rw [List.isSuffixOf_iff_suffix]; exact List.suffix_append _ _)]
  simp
theorem readP_text {x : Rl} (h : rightR x = true) : readP (textR x) = x := by
  obtain ⟨n, o, v⟩ := x
  unfold rightR at h
  simp only [Bool.and_eq_true] at h
  obtain ⟨h1, h2⟩ := h
  have hn := name_32 h1
  unfold readP textR
  simp only []
  by_cases ho : o = []
  · subst ho
    rw [if_pos rfl] at h2 ⊢
    have hv : v = [] := by simpa using h2
    subst hv
    rw [cut_lone (lone_first hn)]
    rfl
  · rw [if_neg ho] at h2 ⊢
    simp only [Bool.and_eq_true, decide_eq_true_eq] at h2
    have e : n ++ 32 :: 40 :: (o ++ 32 :: (v ++ [41])) = n ++ ([32, 40] ++ ((o ++ ([32] ++ v)) ++ [41])) := by simp
    rw [e, cut_apart (apart_first hn)]
    simp only []
    rw [trim_end, cut_apart (apart_first (op_32 h2.1))]
theorem parse_by_readP (s : Bs) : parseR s = if rightR (readP s) = true ∧ textR (readP s) = s then some (readP s) else none := by
  split
  · rename_i g
    have := parse_textR g.1
    rw [g.2] at this; exact this
  · rename_i g
    cases hp : parseR s with
    | none => rfl
    | some y =>
      obtain ⟨h1, h2⟩ := text_parseR hp
      have := readP_text h2
      rw [h1] at this
      exact absurd ⟨by rw [this]; exact h2, by rw [this]; exact h1⟩ g
def parsedQ (o : Option Rl) : Value := match o with
  | some x => .tuple #[relV x, .int .i64 0]
  | none => .tuple #[relV ([], [], []), .int .i64 2]
def ParsePostP (s : Bs) (w : World) (e : Ending) (w' : World) : Prop := e = .returned (parsedQ (parseR s)) ∧ Below w.heap.size w w'
theorem cut_len {s sep : Bs} : (Lib.cut s sep).1.length ≤ s.length ∧ (Lib.cut s sep).2.1.length ≤ s.length := by
  unfold Lib.cut
  split
  · exact ⟨List.length_take_le' _ _, by rw [List.length_drop]; omega⟩
  · exact ⟨Nat.le_refl _, by simp⟩
theorem trim_len (s p : Bs) : (Lib.trimSuffix s p).length ≤ s.length := by
  unfold Lib.trimSuffix
  split
  · exact List.length_take_le' _ _
  · exact Nat.le_refl _
set_option maxRecDepth 100000 in
set_option maxHeartbeats 8000000 in
theorem parseP_any (s : ByteArray) (hs : s.size ≤ 4000) (w : World) (hL : LaidQ w) : Calls Tryz.prog 156 #[.string s] w (ParsePostP s.data.toList w) := by
  have HPB := Lib.hid (parse_by_readP s.data.toList)
  obtain ⟨c1, hc1⟩ : ∃ c1, Lib.cut s.data.toList [32, 40] = c1 := ⟨_, rfl⟩
  obtain ⟨n, hn⟩ : ∃ n : ByteArray, (⟨c1.1.toArray⟩ : ByteArray) = n := ⟨_, rfl⟩
  obtain ⟨r, hr⟩ : ∃ r : ByteArray, (⟨c1.2.1.toArray⟩ : ByteArray) = r := ⟨_, rfl⟩
  obtain ⟨t, ht⟩ : ∃ t : ByteArray, (⟨(Lib.trimSuffix c1.2.1 [41]).toArray⟩ : ByteArray) = t := ⟨_, rfl⟩
  obtain ⟨c2, hc2⟩ : ∃ c2, Lib.cut (Lib.trimSuffix c1.2.1 [41]) [32] = c2 := ⟨_, rfl⟩
  obtain ⟨o, ho⟩ : ∃ o : ByteArray, (⟨c2.1.toArray⟩ : ByteArray) = o := ⟨_, rfl⟩
  obtain ⟨v, hv⟩ : ∃ v : ByteArray, (⟨c2.2.1.toArray⟩ : ByteArray) = v := ⟨_, rfl⟩
  have l1 := cut_len (s := s.data.toList) (sep := [32, 40])
  rw [hc1, ← sizeOf] at l1
  have l2 := trim_len c1.2.1 [41]
  have l3 := cut_len (s := Lib.trimSuffix c1.2.1 [41]) (sep := [32])
  rw [hc2] at l3
  have hnL : n.data.toList = c1.1 := by rw [← hn]
  have hoL : o.data.toList = c2.1 := by rw [← ho]
  have hvL : v.data.toList = c2.2.1 := by rw [← hv]
  have hns : n.size ≤ 4000 := by rw [sizeOf, hnL]; omega
  have hos : o.size ≤ 4000 := by rw [sizeOf, hoL]; omega
  have hvs : v.size ≤ 4000 := by rw [sizeOf, hvL]; omega
  have hrs : r.size ≤ 4000 := by rw [sizeOf, ← hr]; show c1.2.1.length ≤ _; omega
  have hts : t.size ≤ 4000 := by rw [sizeOf, ← ht]; show (Lib.trimSuffix c1.2.1 [41]).length ≤ _; omega
  have hread : readP s.data.toList = (n.data.toList, o.data.toList, v.data.toList) := by
    unfold readP; rw [hc1, hc2, hnL, hoL, hvL]
  have HRD := Lib.hid hread
  have CUT1 : ∀ W m, W.cell? ⟨1, 0, none⟩ = some (.int .i64 m) → Calls Tryz.prog 123 #[.string s, .string ⟨#[32, 40]⟩] W fun e w' => e = .returned (.tuple #[.string n, .string r, .bool c1.2.2]) ∧ ∃ q, w' = W.drewN q := fun W m hm => by
    have := Tryz.strings_Cut s ⟨#[32, 40]⟩ m W (by omega) hm
    rw [show (ByteArray.mk #[32, 40]).data.toList = [32, 40] from rfl, hc1, hn, hr] at this
    exact this
  have TS : ∀ W, Calls Tryz.prog 188 #[.string r, .string ⟨#[41]⟩] W fun e w' => e = .returned (.string t) ∧ w' = W := fun W => by
    have := Tryz.strings_TrimSuffix r ⟨#[41]⟩ W (by omega)
    rw [show (ByteArray.mk #[41]).data.toList = [41] from rfl, show r.data.toList = c1.2.1 by rw [← hr], ht] at this
    exact this
  have CUT2 : ∀ W m, W.cell? ⟨1, 0, none⟩ = some (.int .i64 m) → Calls Tryz.prog 123 #[.string t, .string ⟨#[32]⟩] W fun e w' => e = .returned (.tuple #[.string o, .string v, .bool c2.2.2]) ∧ ∃ q, w' = W.drewN q := fun W m hm => by
    have := Tryz.strings_Cut t ⟨#[32]⟩ m W (by omega) hm
    rw [show (ByteArray.mk #[32]).data.toList = [32] from rfl, show t.data.toList = Lib.trimSuffix c1.2.1 [41] by rw [← ht], hc2, ho, hv] at this
    exact this
  have RT := fun W h => rightR_any n o v hns hvs W h
  have TX := fun W => textR_any n o v (by omega) (by omega) (by omega) W
  obtain ⟨rb, hrb⟩ : ∃ rb, rightR (n.data.toList, o.data.toList, v.data.toList) = rb := ⟨_, rfl⟩
  obtain ⟨T, hT⟩ : ∃ T : ByteArray, (⟨(textR (n.data.toList, o.data.toList, v.data.toList)).toArray⟩ : ByteArray) = T := ⟨_, rfl⟩
  have hTL : textR (n.data.toList, o.data.toList, v.data.toList) = T.data.toList := by rw [← hT]
  rw [hrb] at RT
  rw [hT] at TX
  have hP : parseR s.data.toList = if rb = true ∧ T.data.toList = s.data.toList then some (n.data.toList, o.data.toList, v.data.toList) else none := by rw [HPB.out, HRD.out, hrb, hTL]
  have HYES : Hid (∀ w', parseR s.data.toList = some (n.data.toList, o.data.toList, v.data.toList) → Below w.heap.size w w' → ParsePostP s.data.toList w (.returned (.tuple #[.agg #[.string n, .string o, .string v], .int .i64 0])) w') := Lib.hid (fun w' h hb => ⟨by rw [h]; rfl, hb⟩)
  have HNO : Hid (∀ w', parseR s.data.toList = none → Below w.heap.size w w' → ParsePostP s.data.toList w (.returned (.tuple #[.agg #[.string ⟨#[]⟩, .string ⟨#[]⟩, .string ⟨#[]⟩], .int .i64 2])) w') := Lib.hid (fun w' h hb => ⟨by rw [h]; rfl, hb⟩)
  have C1 : ∀ W, LaidQ W → Calls Tryz.prog 123 #[.string s, .string ⟨#[32, 40]⟩] W fun e w' => e = .returned (.tuple #[.string n, .string r, .bool c1.2.2]) ∧ ∃ q, w' = W.drewN q := fun W h => by
    obtain ⟨m, hm⟩ := h.m; exact CUT1 W m hm
  have C2 : ∀ W, LaidQ W → Calls Tryz.prog 123 #[.string t, .string ⟨#[32]⟩] W fun e w' => e = .returned (.tuple #[.string o, .string v, .bool c2.2.2]) ∧ ∃ q, w' = W.drewN q := fun W h => by
    obtain ⟨m, hm⟩ := h.m; exact CUT2 W m hm
  have hb0 := (Below.refl w.heap.size w).alloc (Nat.le_refl _) oRel
  have HB0 := Lib.hid hb0
  have HL0 := Lib.hid (hL.on hb0)
  have HR0 := Lib.hid (BoxQ.new w ⟨#[]⟩ ⟨#[]⟩ ⟨#[]⟩ 57)
  generalize c1.2.2 = f1 at *
  generalize c2.2.2 = f2 at *
  clear CUT1 CUT2 hc1 hn hr ht hc2 ho hv l1 l2 l3 hnL hoL hvL hread hb0 hL HPB HRD hrb hT hTL hns hos hvs hrs hts hs
  cases rb
  · have G := Lib.hid (fun w' => HNO.out w' (by rw [hP, if_neg (by simp)]))
    clear HYES HNO hP TX
    go_enter Tryz.func156, Tryz.ntmps156
    go_wp2_with (first
    | (go_at_call 123; (with_reducible refine (C1 _ HL0.out).mono ?_); rintro e w1 ⟨rfl, q1, hw1⟩; have hb1 := belowQ (Below.refl (w.alloc oRel).heap.size (w.alloc oRel)) q1; rw [← hw1] at hb1; have HR1 := Lib.hid (HR0.out.on hb1); have HL1 := Lib.hid (HL0.out.on hb1); have HB1 := Lib.hid (HB0.out.trans (hb1.mono HB0.out.size)); clear hw1 hb1 C1)
    | (go_at_call 188; (with_reducible refine (TS _).mono ?_); rintro e w2 ⟨rfl, rfl⟩; clear TS)
    | (go_at_call 123; (with_reducible refine (C2 _ HL1.out).mono ?_); rintro e w3 ⟨rfl, q2, hw3⟩; have hb3 := belowQ (Below.refl w2.heap.size w2) q2; rw [← hw3] at hb3; have hb4 := hb3.alloc hb3.size (.cells #[.string n, .string o, .string v] 57); have HR3 := Lib.hid (HR1.out.on hb4); have HL3 := Lib.hid (HL1.out.on hb4); have HB3 := Lib.hid (HB1.out.trans (hb4.mono HB1.out.size)); have HX3 := Lib.hid (BoxQ.new w3 n o v 57); clear hw3 hb3 hb4 C2)
    | (go_at_call 173; (with_reducible refine (RT _ HL3.out.v).mono ?_); rintro e w4 ⟨rfl, hb⟩; obtain ⟨r0, r1, r2, rf⟩ := HR3.out.on hb; have HR4 := Lib.hid (HR3.out.on hb); obtain ⟨b0, b1, b2, bf⟩ := HX3.out.on hb; have HX4 := Lib.hid (HX3.out.on hb); have HB4 := Lib.hid (HB3.out.trans (hb.mono HB3.out.size)); clear hb RT))
    obtain ⟨k0, k1, k2⟩ := BoxQ.put ⟨r0, r1, r2, rf⟩ ⟨#[]⟩ ⟨#[]⟩ ⟨#[]⟩
    exact bodyPost_ret (v := .tuple #[.agg #[.string ⟨#[]⟩, .string ⟨#[]⟩, .string ⟨#[]⟩], .int .i64 2]) (by simp [results, Tryz.results156, go_sem, k0, k1, k2]) rfl (G.out _ (putQ3_below HB4.out (Nat.le_refl _) _ _ _))
  have hq := eqT T s
  by_cases hts : T.data.toList = s.data.toList
  · rw [decide_eq_true hts] at hq
    have G := Lib.hid (fun w' => HYES.out w' (by rw [hP, if_pos ⟨rfl, hts⟩]))
    clear HYES HNO hP hts
    go_enter Tryz.func156, Tryz.ntmps156
    go_wp2_with (first
    | (go_at_call 123; (with_reducible refine (C1 _ HL0.out).mono ?_); rintro e w1 ⟨rfl, q1, hw1⟩; have hb1 := belowQ (Below.refl (w.alloc oRel).heap.size (w.alloc oRel)) q1; rw [← hw1] at hb1; have HR1 := Lib.hid (HR0.out.on hb1); have HL1 := Lib.hid (HL0.out.on hb1); have HB1 := Lib.hid (HB0.out.trans (hb1.mono HB0.out.size)); clear hw1 hb1 C1)
    | (go_at_call 188; (with_reducible refine (TS _).mono ?_); rintro e w2 ⟨rfl, rfl⟩; clear TS)
    | (go_at_call 123; (with_reducible refine (C2 _ HL1.out).mono ?_); rintro e w3 ⟨rfl, q2, hw3⟩; have hb3 := belowQ (Below.refl w2.heap.size w2) q2; rw [← hw3] at hb3; have hb4 := hb3.alloc hb3.size (.cells #[.string n, .string o, .string v] 57); have HR3 := Lib.hid (HR1.out.on hb4); have HL3 := Lib.hid (HL1.out.on hb4); have HB3 := Lib.hid (HB1.out.trans (hb4.mono HB1.out.size)); have HX3 := Lib.hid (BoxQ.new w3 n o v 57); clear hw3 hb3 hb4 C2)
    | (go_at_call 173; (with_reducible refine (RT _ HL3.out.v).mono ?_); rintro e w4 ⟨rfl, hb⟩; obtain ⟨r0, r1, r2, rf⟩ := HR3.out.on hb; have HR4 := Lib.hid (HR3.out.on hb); obtain ⟨b0, b1, b2, bf⟩ := HX3.out.on hb; have HX4 := Lib.hid (HX3.out.on hb); have HB4 := Lib.hid (HB3.out.trans (hb.mono HB3.out.size)); clear hb RT)
    | (go_at_call 135; (with_reducible refine (TX _).mono ?_); rintro e w5 ⟨rfl, hb⟩; obtain ⟨s0, s1, s2, sf⟩ := HR4.out.on hb; obtain ⟨d0, d1, d2, df⟩ := HX4.out.on hb; have HR5 := Lib.hid (HR4.out.on hb); have HB5 := Lib.hid (HB4.out.trans (hb.mono HB4.out.size)); clear hb TX))
    obtain ⟨k0, k1, k2⟩ := BoxQ.put ⟨s0, s1, s2, sf⟩ n o v
    exact bodyPost_ret (v := .tuple #[.agg #[.string n, .string o, .string v], .int .i64 0]) (by simp [results, Tryz.results156, go_sem, k0, k1, k2]) rfl (G.out _ (putQ3_below HB5.out (Nat.le_refl _) _ _ _))
  · rw [decide_eq_false hts] at hq
    have G := Lib.hid (fun w' => HNO.out w' (by rw [hP, if_neg (fun g => hts g.2)]))
    clear HYES HNO hP hts
    go_enter Tryz.func156, Tryz.ntmps156
    go_wp2_with (first
    | (go_at_call 123; (with_reducible refine (C1 _ HL0.out).mono ?_); rintro e w1 ⟨rfl, q1, hw1⟩; have hb1 := belowQ (Below.refl (w.alloc oRel).heap.size (w.alloc oRel)) q1; rw [← hw1] at hb1; have HR1 := Lib.hid (HR0.out.on hb1); have HL1 := Lib.hid (HL0.out.on hb1); have HB1 := Lib.hid (HB0.out.trans (hb1.mono HB0.out.size)); clear hw1 hb1 C1)
    | (go_at_call 188; (with_reducible refine (TS _).mono ?_); rintro e w2 ⟨rfl, rfl⟩; clear TS)
    | (go_at_call 123; (with_reducible refine (C2 _ HL1.out).mono ?_); rintro e w3 ⟨rfl, q2, hw3⟩; have hb3 := belowQ (Below.refl w2.heap.size w2) q2; rw [← hw3] at hb3; have hb4 := hb3.alloc hb3.size (.cells #[.string n, .string o, .string v] 57); have HR3 := Lib.hid (HR1.out.on hb4); have HL3 := Lib.hid (HL1.out.on hb4); have HB3 := Lib.hid (HB1.out.trans (hb4.mono HB1.out.size)); have HX3 := Lib.hid (BoxQ.new w3 n o v 57); clear hw3 hb3 hb4 C2)
    | (go_at_call 173; (with_reducible refine (RT _ HL3.out.v).mono ?_); rintro e w4 ⟨rfl, hb⟩; obtain ⟨r0, r1, r2, rf⟩ := HR3.out.on hb; have HR4 := Lib.hid (HR3.out.on hb); obtain ⟨b0, b1, b2, bf⟩ := HX3.out.on hb; have HX4 := Lib.hid (HX3.out.on hb); have HB4 := Lib.hid (HB3.out.trans (hb.mono HB3.out.size)); clear hb RT)
    | (go_at_call 135; (with_reducible refine (TX _).mono ?_); rintro e w5 ⟨rfl, hb⟩; obtain ⟨s0, s1, s2, sf⟩ := HR4.out.on hb; obtain ⟨d0, d1, d2, df⟩ := HX4.out.on hb; have HR5 := Lib.hid (HR4.out.on hb); have HB5 := Lib.hid (HB4.out.trans (hb.mono HB4.out.size)); clear hb TX))
    obtain ⟨k0, k1, k2⟩ := BoxQ.put ⟨s0, s1, s2, sf⟩ ⟨#[]⟩ ⟨#[]⟩ ⟨#[]⟩
    exact bodyPost_ret (v := .tuple #[.agg #[.string ⟨#[]⟩, .string ⟨#[]⟩, .string ⟨#[]⟩], .int .i64 2]) (by simp [results, Tryz.results156, go_sem, k0, k1, k2]) rfl (G.out _ (putQ3_below HB5.out (Nat.le_refl _) _ _ _))
end Go.Proofs.YtbeoklihpkfofaaGreatDoor
