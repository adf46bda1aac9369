/-
  The program's Parse of a version: what it returns; nothing old turns. Condition: LaidV. The program's Right and Text of a relation: what each returns; nothing old turns. Condition: LaidV.
-/
import Derived.Test.YtbeoklihpkfofaaGreatDoorVPEpoch
import Derived.Test.YtbeoklihpkfofaaGreatDoorQRight
import Derived.BigRegion
namespace Go.Proofs.YtbeoklihpkfofaaGreatDoor
open Go.RowKit
/-- The marks of an upstream version, with the colon. -/
abbrev m5 : Bs := [46, 43, 45, 126, 58]
theorem verOf_two (l : Bs) : (firstI 58 l = -1 ∧ verOf l = restV 0 m5 l) ∨ ∃ k : Nat, firstI 58 l = k ∧ k < l.length ∧ ((epochP (l.take k)).2 = 0 → verOf l = restV (epochP (l.take k)).1 m5 (l.drop (k + 1))) ∧ ((epochP (l.take k)).2 ≠ 0 → verOf l = none) := by
  rcases verOf_ways l with ⟨h, hv⟩ | ⟨k, h, hk, hbad, hgood⟩
  · left
    refine ⟨h, ?_⟩
    rw [hv, restV_plain (firstI_neg.1 (by omega))]
  · right
    have hlen : (l.take k).length = k := by rw [List.length_take]; omega
    refine ⟨k, h, hk, ?_⟩
    by_cases hy : l.take k ≠ [] ∧ (l.take k).length ≤ 9 ∧ (l.take k).all dgB = true
    · have hk1 : 1 ≤ k := by
        have := List.length_pos_iff.2 hy.1
        omega
      rw [epochP_yes hy]
      exact ⟨fun _ => (hgood hk1 (by rw [hlen] at hy; exact hy.2.1)).1 hy.2.2, fun g => absurd rfl g⟩
    · rw [epochP_no hy]
      refine ⟨fun g => absurd g (by decide), fun _ => ?_⟩
      by_cases hb : k < 1 ∨ 9 < k
      · exact hbad hb
      · refine (hgood (by omega) (by omega)).2 ?_
        cases ha : (l.take k).all dgB
        · rfl
        · exact absurd ⟨fun e => by rw [e] at hlen; simp at hlen; omega, by omega, ha⟩ hy
theorem occ_one (l : Bs) (c : UInt8) (k : Nat) (hk : k < l.length) : Lib.occAt l [c] k = (c == l[k]) := by
  unfold Lib.occAt
  rw [List.drop_eq_getElem_cons hk]
  simp [List.isPrefixOf]
theorem last_to (l : Bs) (c : UInt8) : ∀ k : Nat, k ≤ l.length → Lib.lastOcc l [c] k = lastI c (l.take k)
  | 0, _ => by simp [Lib.lastOcc, lastI]
  | k + 1, hk => by
    have ih := last_to l c k (by omega)
    have e : l.take (k + 1) = l.take k ++ [l[k]'(by omega)] := by rw [List.take_add_one, List.getElem?_eq_getElem (by omega)]; rfl
    have hlen : (l.take k).length = k := by rw [List.length_take]; omega
    rw [e, lastI_snoc]
    have ho := occ_one l c k (by omega)
    by_cases h : l[k]'(by omega) = c
    · rw [if_pos h, Lib.lastOcc_hit _ _ _ (by rw [ho, h]; simp), hlen]
    · rw [if_neg h, Lib.lastOcc_miss _ _ _ (by rw [ho]; simpa using fun g => h g.symm), ih]
theorem last_is (l : Bs) (c : UInt8) : Lib.lastIndex l [c] = lastI c l := by
  unfold Lib.lastIndex
  by_cases h : [c].length ≤ l.length
  · rw [if_pos h]
    have : l.length - [c].length + 1 = l.length := by simp at h ⊢; omega
    rw [this, last_to l c _ (Nat.le_refl _), List.take_length]
  · rw [if_neg h]
    have : l = [] := List.eq_nil_of_length_eq_zero (by simp at h; simp [h])
    subst this; rfl
theorem last_any (s : ByteArray) (hs : s.size ≤ 100000) (c : UInt8) (w : World) : Calls Tryz.prog 125 #[.string s, .string ⟨#[c]⟩] w fun e w' => e = .returned (.int .i64 (lastI c s.data.toList)) ∧ w = w' :=
  (Tryz.strings_LastIndex s ⟨#[c]⟩ (by omega) w).mono fun _ _ h => ⟨by rw [h.1]; exact congrArg (fun z => Ending.returned (.int .i64 z)) (last_is _ c), h.2.symm⟩
/-- A box of a version that may be written. -/
structure BoxV (w : World) (b : Nat) (z : Int) (u v : ByteArray) : Prop where
  c0 : w.cell? ⟨b, 0, none⟩ = some (.int .i64 z)
  c1 : w.cell? ⟨b, 1, none⟩ = some (.string u)
  c2 : w.cell? ⟨b, 2, none⟩ = some (.string v)
  f : ∀ i, w.frozen? ⟨b, i, none⟩ = false
theorem BoxV.new (A : World) (z : Int) (u v : ByteArray) (t : TypeId) : BoxV (A.alloc (.cells #[.int .i64 z, .string u, .string v] t)) A.heap.size z u v :=
  ⟨by simp [World.cell?_alloc_new], by simp [World.cell?_alloc_new], by simp [World.cell?_alloc_new], fun i => frozen_of_row _ A.heap.size i _ t (heap_alloc_new A _)⟩
theorem BoxV.on {A B : World} {b : Nat} {z : Int} {u v : ByteArray} (h : BoxV A b z u v) (hb : Below A.heap.size A B) : BoxV B b z u v := by
  have hlt := World.block_lt_of_cell? A _ h.c0
  have k := fun o => hb.cell (p := ⟨b, o, none⟩) hlt
  exact ⟨by rw [k]; exact h.c0, by rw [k]; exact h.c1, by rw [k]; exact h.c2, fun i => by rw [hb.frozen (p := ⟨b, i, none⟩) hlt]; exact h.f i⟩
theorem BoxV.al {A : World} {b : Nat} {z : Int} {u v : ByteArray} (h : BoxV A b z u v) (o : Obj) : BoxV (A.alloc o) b z u v := h.on ((Below.refl _ _).alloc (Nat.le_refl _) o)
theorem BoxV.dr {A : World} {b : Nat} {z : Int} {u v : ByteArray} (h : BoxV A b z u v) (q : Nat) : BoxV (A.drewN q) b z u v := h.on (belowQ (Below.refl _ _) q)
theorem setO (A : World) (b i j : Nat) (u : Value) (h : i ≠ j) : (A.setCell ⟨b, i, none⟩ u).cell? ⟨b, j, none⟩ = A.cell? ⟨b, j, none⟩ := World.cell?_setCell_other _ _ _ _ (fun e => h (congrArg Addr.off e))
theorem setB (A : World) (b b' i j : Nat) (u : Value) (h : b' ≠ b) : (A.setCell ⟨b', i, none⟩ u).cell? ⟨b, j, none⟩ = A.cell? ⟨b, j, none⟩ := World.cell?_setCell_other _ _ _ _ (fun e => h (congrArg Addr.block e))
theorem BoxV.set0 {A : World} {b : Nat} {z : Int} {u v : ByteArray} (h : BoxV A b z u v) (z' : Int) : BoxV (A.setCell ⟨b, 0, none⟩ (.int .i64 z')) b z' u v :=
  ⟨World.cell?_setCell_same _ _ _ h.c0, by rw [setO _ _ _ _ _ (by omega)]; exact h.c1, by rw [setO _ _ _ _ _ (by omega)]; exact h.c2, fun i => by rw [World.frozen?_setCell]; exact h.f i⟩
theorem BoxV.set1 {A : World} {b : Nat} {z : Int} {u v : ByteArray} (h : BoxV A b z u v) (u' : ByteArray) : BoxV (A.setCell ⟨b, 1, none⟩ (.string u')) b z u' v :=
  ⟨by rw [setO _ _ _ _ _ (by omega)]; exact h.c0, World.cell?_setCell_same _ _ _ h.c1, by rw [setO _ _ _ _ _ (by omega)]; exact h.c2, fun i => by rw [World.frozen?_setCell]; exact h.f i⟩
theorem BoxV.set2 {A : World} {b : Nat} {z : Int} {u v : ByteArray} (h : BoxV A b z u v) (v' : ByteArray) : BoxV (A.setCell ⟨b, 2, none⟩ (.string v')) b z u v' :=
  ⟨by rw [setO _ _ _ _ _ (by omega)]; exact h.c0, by rw [setO _ _ _ _ _ (by omega)]; exact h.c1, World.cell?_setCell_same _ _ _ h.c2, fun i => by rw [World.frozen?_setCell]; exact h.f i⟩
theorem BoxV.setX {A : World} {b : Nat} {z : Int} {u v : ByteArray} (h : BoxV A b z u v) {b' : Nat} (hb : b' ≠ b) (i : Nat) (x : Value) : BoxV (A.setCell ⟨b', i, none⟩ x) b z u v :=
  ⟨by rw [setB _ _ _ _ _ _ hb]; exact h.c0, by rw [setB _ _ _ _ _ _ hb]; exact h.c1, by rw [setB _ _ _ _ _ _ hb]; exact h.c2, fun i => by rw [World.frozen?_setCell]; exact h.f i⟩
abbrev putV (w : World) (b : Nat) (z : Int) (u v : ByteArray) : World := ((w.setCell ⟨b, 0, none⟩ (.int .i64 z)).setCell ⟨b, 1, none⟩ (.string u)).setCell ⟨b, 2, none⟩ (.string v)
theorem BoxV.put {w : World} {b : Nat} {z : Int} {u v : ByteArray} (h : BoxV w b z u v) (z' : Int) (u' v' : ByteArray) : BoxV (putV w b z' u' v') b z' u' v' := ((h.set0 z').set1 u').set2 v'
theorem putV_below {B : Nat} {w0 w : World} {b : Nat} (h : Below B w0 w) (hb : B ≤ b) (z : Int) (x y : ByteArray) : Below B w0 (putV w b z x y) := ((h.setCell (p := ⟨b, 0, none⟩) hb _).setCell (p := ⟨b, 1, none⟩) hb _).setCell (p := ⟨b, 2, none⟩) hb _
/-- What Cut tells, whatever comes. -/
def CutIs (s : ByteArray) (c : UInt8) (A B : ByteArray) (ok : Bool) : Prop :=
  (ok = false ∧ firstI c s.data.toList = -1 ∧ A = s ∧ B = ⟨#[]⟩) ∨ (ok = true ∧ ∃ k : Nat, firstI c s.data.toList = k ∧ k < s.size ∧ A = s.extract 0 k ∧ B = s.extract (k + 1) s.size)
theorem cut2_any (s : ByteArray) (hs : s.size ≤ 100000) (c : UInt8) (w : World) : Calls Tryz.prog 123 #[.string s, .string ⟨#[c]⟩] w fun e w' => ∃ (A B : ByteArray) (ok : Bool), e = .returned (.tuple #[.string A, .string B, .bool ok]) ∧ Hid (CutIs s c A B ok) ∧ ∃ q, w' = w.drewN q :=
  (cut1_any s hs c w).mono fun e w' hp => by
    obtain ⟨hq, ⟨h, he⟩ | ⟨k, h, hk, he⟩⟩ := hp
    · exact ⟨_, _, _, he, Lib.hid (.inl ⟨rfl, h, rfl, rfl⟩), hq⟩
    · exact ⟨_, _, _, he, Lib.hid (.inr ⟨rfl, k, h, hk, rfl, rfl⟩), hq⟩
set_option maxRecDepth 100000 in
set_option maxHeartbeats 8000000 in
theorem parse_any (s : ByteArray) (hs : s.size ≤ 4000) (w : World) (h : LaidV w) : Calls Tryz.prog 75 #[.string s] w (ParsePost s.data.toList w) := by
  have hl := sizeOf s
  by_cases h80 : 80 < s.size
  · have HP : Hid (∀ e w', e = .returned (.tuple #[.agg #[.int .i64 0, .string ⟨#[]⟩, .string ⟨#[]⟩], .int .i64 8]) → Below w.heap.size w w' → ParsePost s.data.toList w e w') := Lib.hid (fun e w' h g => ⟨by rw [parseV_long (by omega)]; exact h, g⟩)
    clear hl h
    go_enter Tryz.func75, Tryz.ntmps75
    go_wp2
    exact bodyPost_ret (v := .tuple #[.agg #[.int .i64 0, .string ⟨#[]⟩, .string ⟨#[]⟩], .int .i64 8]) (by simp [results, Tryz.results75, go_sem]) rfl (HP.out _ _ rfl ((Below.refl _ _).alloc (Nat.le_refl _) _))
  · have C58 := fun w => cut2_any s (by omega) 58 w
    have C4 := fun (x : ByteArray) (hx : x.size ≤ 4000) w => last_any x (by omega) 45 w
    have HL := Lib.hid h
    have HW := Lib.hid (verOf_two s.data.toList)
    have HV : Hid (∀ (l : ByteArray) (e : Int) (o : Option Ver), AtTail s l ⟨#[46, 43, 45, 126, 58]⟩ e → restV e m5 l.data.toList = o → parseV s.data.toList = parsedV o) := Lib.hid (fun l e o h1 h2 => verOf_parse (by omega) h1 h2)
    have HN : Hid (verOf s.data.toList = none → ∀ e w', e = .returned (.tuple #[.agg #[.int .i64 0, .string ⟨#[]⟩, .string ⟨#[]⟩], .int .i64 2]) → Below w.heap.size w w' → ParsePost s.data.toList w e w') := Lib.hid (fun hv e w' h g => ⟨by rw [parseV_none (by omega) hv]; exact h, g⟩)
    clear hl h
    go_enter Tryz.func75, Tryz.ntmps75
    go_upto_if 23 with (first | (go_at_call 123; refine (C58 _).mono ?_; rintro e w1 ⟨A, B, ok, rfl, HC, q, rfl⟩))
    go_cut [] (fun wx => ∃ (l : ByteArray) (e : Int), l.size ≤ 4000 ∧ Hid (AtTail s l ⟨#[46, 43, 45, 126, 58]⟩ e) ∧ BoxV wx (w.heap.size + 1) e l ⟨#[48]⟩ ∧ BoxV wx w.heap.size 0 ⟨#[]⟩ ⟨#[]⟩ ∧ Hid (Below w.heap.size w wx))
    case first =>
      clear C58 C4
      obtain ⟨W0, hW0⟩ : ∃ W0 : World, Hid (W0 = (w.alloc (.cells #[.int .i64 0, .string ⟨#[]⟩, .string ⟨#[]⟩] 61)).alloc (.cells #[.int .i64 0, .string s, .string ⟨#[48]⟩] 61)) := ⟨_, Lib.hid rfl⟩
      have HR0 : Hid (BoxV W0 w.heap.size 0 ⟨#[]⟩ ⟨#[]⟩) := Lib.hid (by rw [hW0.out]; exact (BoxV.new w _ _ _ _).al _)
      have HV0 : Hid (BoxV W0 (w.heap.size + 1) 0 s ⟨#[48]⟩) := Lib.hid (by rw [hW0.out]; have := BoxV.new (w.alloc (.cells #[.int .i64 0, .string ⟨#[]⟩, .string ⟨#[]⟩] 61)) 0 s ⟨#[48]⟩ 61; simpa using this)
      have HB0 : Hid (Below w.heap.size w W0) := Lib.hid (by rw [hW0.out]; exact ((Below.refl _ _).alloc (Nat.le_refl _) _).alloc (by simp) _)
      rw [← hW0.out]
      clear hW0
      rcases HC.out with ⟨rfl, h, rfl, rfl⟩ | ⟨rfl, k, h, hk, rfl, rfl⟩
      · have HT : Hid (AtTail A A ⟨#[46, 43, 45, 126, 58]⟩ 0) := Lib.hid (by
          rcases HW.out with ⟨_, hv⟩ | ⟨k, hk, _⟩
          · exact hv
          · omega)
        clear HW HC h HV HN
        go_wp2
        go_meet
        case rel => exact ⟨A, 0, hs, HT, HV0.out.dr _, HR0.out.dr _, Lib.hid (belowQ HB0.out _)⟩
      · have HK : Hid (((epochP (s.extract 0 k).data.toList).2 = 0 → AtTail s (s.extract (k + 1) s.size) ⟨#[46, 43, 45, 126, 58]⟩ (epochP (s.extract 0 k).data.toList).1) ∧ ((epochP (s.extract 0 k).data.toList).2 ≠ 0 → verOf s.data.toList = none)) := Lib.hid (by
          rcases HW.out with ⟨h', _⟩ | ⟨j, hj, _, h1, h2⟩
          · omega
          · obtain rfl : j = k := by omega
            have e1 : (s.extract 0 j).data.toList = s.data.toList.take j := by rw [extL]; simp
            rw [e1]
            refine ⟨fun g => ?_, h2⟩
            unfold AtTail
            rw [h1 g, ext_all])
        have E := fun (w' : World) (hw : LaidV w') => epoch_any (s.extract 0 k) (by rw [ByteArray.size_extract]; omega) w' hw
        unfold EpochPost at E
        have hes : (epochP (s.extract 0 k).data.toList).2 = 0 ∨ (epochP (s.extract 0 k).data.toList).2 = 2 := by unfold epochP; split <;> simp
        generalize epochP (s.extract 0 k).data.toList = ep at *
        obtain ⟨z, er⟩ := ep
        simp only [] at HK E hes
        have HLB : Hid (LaidV W0) := Lib.hid (HL.out.on HB0.out)
        clear HW HC h HL
        rcases hes with rfl | rfl
        · have HT := Lib.hid (HK.out.1 rfl)
          have hx : (s.extract (k + 1) s.size).size ≤ 4000 := by rw [ByteArray.size_extract]; omega
          clear HK HV HN
          go_wp2_with (go_at_call 124; refine (E _ (LaidV.dr HLB _)).mono ?_; rintro e w2 ⟨rfl, hb⟩; obtain ⟨r0, r1, r2, rf⟩ := (HR0.out.dr q).on hb; obtain ⟨v0, v1, v2, vf⟩ := (HV0.out.dr q).on hb; have HBX := Lib.hid (fin (belowQ HB0.out q) hb); clear hb E)
          go_meet
          case rel => exact ⟨_, z, hx, HT, (BoxV.set0 ⟨v0, v1, v2, vf⟩ z).set1 _, ((BoxV.setX ⟨r0, r1, r2, rf⟩ (by omega) _ _).setX (by omega) _ _), Lib.hid ((HBX.out.setCell (by simp) _).setCell (by simp) _)⟩
        · have HT := Lib.hid (HK.out.2 (by decide))
          clear HK HV HV0
          go_wp2_with (go_at_call 124; refine (E _ (LaidV.dr HLB _)).mono ?_; rintro e w2 ⟨rfl, hb⟩; obtain ⟨r0, r1, r2, rf⟩ := (HR0.out.dr q).on hb; have HBX := Lib.hid (fin (belowQ HB0.out q) hb); clear hb E)
          obtain ⟨k0, k1, k2, _⟩ := BoxV.put ⟨r0, r1, r2, rf⟩ 0 ⟨#[]⟩ ⟨#[]⟩
          exact bodyPost_ret (v := .tuple #[.agg #[.int .i64 0, .string ⟨#[]⟩, .string ⟨#[]⟩], .int .i64 2]) (by simp [results, Tryz.results75, go_sem, k0, k1, k2]) rfl (HN.out HT.out _ _ rfl (putV_below HBX.out (Nat.le_refl _) _ _ _))
    case rest =>
      obtain ⟨l, e, hll, HT, ⟨c0, c1, c2, cf⟩, HR, HB⟩ := hcut
      have D4 := C4 l hll
      have hlb := lastI_bd 45 l.data.toList
      have hlz := sizeOf l
      have HC : Hid ((lastI 45 l.data.toList < 0 → Cut2 l l ⟨#[48]⟩) ∧ ∀ k : Nat, lastI 45 l.data.toList = k → Cut2 l (l.extract 0 k) (l.extract (k + 1) l.size)) := Lib.hid ⟨cut_none, fun k => cut_some⟩
      generalize lastI 45 l.data.toList = zh at D4 hlb HC
      have hzh : -1 ≤ zh ∧ (zh < l.size ∨ zh = -1) := by rcases hlb with h | h <;> omega
      obtain ⟨hzh1, hzh2⟩ := hzh
      have HBX := Lib.hid (BoxV.mk c0 c1 c2 cf)
      clear hlb hlz HN C58 C4 HW
      go_upto_if 41 with (first | (go_at_call 125; refine (D4 _).mono ?_; rintro e1 w1 ⟨rfl, rfl⟩))
      go_cut [] (fun wx => ∃ (U V : ByteArray), U.size ≤ 4000 ∧ V.size ≤ 4000 ∧ Hid (Cut2 l U V) ∧ BoxV wx (w.heap.size + 1) e U V ∧ BoxV wx w.heap.size 0 ⟨#[]⟩ ⟨#[]⟩ ∧ Hid (Below w.heap.size w wx))
      case first =>
        clear D4
        have hf0 := cf 0
        have hf1 := cf 1
        have hf2 := cf 2
        clear cf
        by_cases hz : zh < 0
        · have HU := Lib.hid (HC.out.1 hz)
          clear HC
          go_wp2
          go_meet
          case rel => exact ⟨l, ⟨#[48]⟩, hll, by decide, HU, HBX.out, HR, HB⟩
        · obtain ⟨k, rfl⟩ : ∃ k : Nat, zh = k := ⟨zh.toNat, by omega⟩
          have HU := Lib.hid (HC.out.2 k rfl)
          have hk : k < l.size := by omega
          clear HC hzh1 hzh2 hz
          go_wp2
          go_region
          go_wp2
          go_meet
          case rel => exact ⟨l.extract 0 k, l.extract (k + 1) l.size, by rw [ByteArray.size_extract]; omega, by rw [ByteArray.size_extract]; omega, HU, by first | exact ((HBX.out.set1 _).set2 _).dr _ | exact ((HBX.out.dr _).set1 _).set2 _, by first | exact (((BoxV.setX HR (by omega) _ _).setX (by omega) _ _)).dr _ | exact ((HR.dr _).setX (by omega) _ _).setX (by omega) _ _, Lib.hid (by first | exact belowQ ((HB.out.setCell (by simp) _).setCell (by simp) _) _ | exact ((belowQ HB.out _).setCell (by simp) _).setCell (by simp) _)⟩
      case rest =>
        obtain ⟨U, V, hU, hV, HU, ⟨d0, d1, d2, df⟩, ⟨r0, r1, r2, rf⟩, HB2⟩ := hcut
        clear D4 HC hzh1 hzh2 HB HBX c0 c1 c2 cf HR
        have HO := Lib.hid (HV.out l e (restV e m5 l.data.toList) HT.out rfl)
        have hcu : cutHy l.data.toList = (U.data.toList, V.data.toList) := HU.out
        have RU := fun w => rightUp_any U (by omega) w
        have RV := fun w => rightRev_any V (by omega) w
        have HRS : Hid (parseV s.data.toList = parsedV (if (headDg U.data.toList && onlyB m5 U.data.toList) = true ∧ (decide (0 < V.size) && onlyB [46, 43, 126] V.data.toList) = true then some (e, U.data.toList, V.data.toList) else none)) := Lib.hid (by
          rw [HO.out]
          unfold restV
          rw [hcu]
          congr 1
          have hv : V.data.toList ≠ [] ↔ 0 < V.size := by rw [sizeOf, List.length_pos_iff]
          simp only [Bool.and_eq_true, decide_eq_true_eq, hv]
          congr 1
          exact propext ⟨fun ⟨a, b, c, d⟩ => ⟨⟨a, b⟩, c, d⟩, fun ⟨⟨a, b⟩, c, d⟩ => ⟨a, b, c, d⟩⟩)
        generalize (headDg U.data.toList && onlyB m5 U.data.toList) = b1 at *
        generalize (decide (0 < V.size) && onlyB [46, 43, 126] V.data.toList) = b2 at *
        clear HU hcu HO HV HT
        cases b1
        · have HF : Hid (Value.tuple #[.agg #[.int .i64 0, .string ⟨#[]⟩, .string ⟨#[]⟩], .int .i64 2] = parseV s.data.toList) := Lib.hid (by rw [HRS.out, if_neg (by simp)]; rfl)
          clear RV HRS
          go_wp2_with (first | (go_at_call 126; refine (RU _).mono ?_; rintro e1 w1 ⟨rfl, rfl⟩))
          obtain ⟨k0, k1, k2, _⟩ := BoxV.put ⟨r0, r1, r2, rf⟩ 0 ⟨#[]⟩ ⟨#[]⟩
          exact bodyPost_ret (v := .tuple #[.agg #[.int .i64 0, .string ⟨#[]⟩, .string ⟨#[]⟩], .int .i64 2]) (by simp [results, Tryz.results75, go_sem, k0, k1, k2]) rfl ⟨congrArg Ending.returned HF.out, putV_below HB2.out (Nat.le_refl _) _ _ _⟩
        · cases b2
          · have HF : Hid (Value.tuple #[.agg #[.int .i64 0, .string ⟨#[]⟩, .string ⟨#[]⟩], .int .i64 2] = parseV s.data.toList) := Lib.hid (by rw [HRS.out, if_neg (by simp)]; rfl)
            clear HRS
            go_wp2_with (first | (go_at_call 126; refine (RU _).mono ?_; rintro e1 w1 ⟨rfl, rfl⟩) | (go_at_call 127; refine (RV _).mono ?_; rintro e1 w1 ⟨rfl, rfl⟩))
            obtain ⟨k0, k1, k2, _⟩ := BoxV.put ⟨r0, r1, r2, rf⟩ 0 ⟨#[]⟩ ⟨#[]⟩
            exact bodyPost_ret (v := .tuple #[.agg #[.int .i64 0, .string ⟨#[]⟩, .string ⟨#[]⟩], .int .i64 2]) (by simp [results, Tryz.results75, go_sem, k0, k1, k2]) rfl ⟨congrArg Ending.returned HF.out, putV_below HB2.out (Nat.le_refl _) _ _ _⟩
          · have HF : Hid (Value.tuple #[.agg #[.int .i64 e, .string U, .string V], .int .i64 0] = parseV s.data.toList) := Lib.hid (by
              rw [HRS.out, if_pos ⟨rfl, rfl⟩]
              show _ = Value.tuple #[verV (e, U.data.toList, V.data.toList), .int .i64 0]
              unfold verV
              rw [← strOf (x := U) rfl, ← strOf (x := V) rfl])
            clear HRS
            go_wp2_with (first | (go_at_call 126; refine (RU _).mono ?_; rintro e1 w1 ⟨rfl, rfl⟩) | (go_at_call 127; refine (RV _).mono ?_; rintro e1 w1 ⟨rfl, rfl⟩))
            obtain ⟨k0, k1, k2, _⟩ := BoxV.put ⟨r0, r1, r2, rf⟩ e U V
            exact bodyPost_ret (v := .tuple #[.agg #[.int .i64 e, .string U, .string V], .int .i64 0]) (by simp [results, Tryz.results75, go_sem, k0, k1, k2]) rfl ⟨congrArg Ending.returned HF.out, putV_below HB2.out (Nat.le_refl _) _ _ _⟩
end Go.Proofs.YtbeoklihpkfofaaGreatDoor
namespace Go.Proofs.YtbeoklihpkfofaaGreatDoor
open Go.RowKit
set_option maxHeartbeats 4000000 in
theorem operator_any (o : ByteArray) (w : World) : Calls Tryz.prog 197 #[.string o] w fun e w' => e = .returned (.bool (opB o.data.toList)) ∧ w = w' := by
  have e1 := eqTL o [60, 60]
  have e2 := eqTL o [60, 61]
  have e3 := eqTL o [61]
  have e4 := eqTL o [62, 61]
  have e5 := eqTL o [62, 62]
  obtain ⟨b1, b2, b3, b4, b5, g1, g2, g3, g4, g5, hop⟩ : ∃ b1 b2 b3 b4 b5, (o.toList == [60, 60]) = b1 ∧ (o.toList == [60, 61]) = b2 ∧ (o.toList == [61]) = b3 ∧ (o.toList == [62, 61]) = b4 ∧ (o.toList == [62, 62]) = b5 ∧ opB o.data.toList = ((((b1 || b2) || b3) || b4) || b5) := ⟨_, _, _, _, _, e1, e2, e3, e4, e5, rfl⟩
  have hways : (b1 = true) ∨ (b1 = false ∧ b2 = true) ∨ (b1 = false ∧ b2 = false ∧ b3 = true) ∨ (b1 = false ∧ b2 = false ∧ b3 = false ∧ b4 = true) ∨ (b1 = false ∧ b2 = false ∧ b3 = false ∧ b4 = false ∧ b5 = true) ∨ (b1 = false ∧ b2 = false ∧ b3 = false ∧ b4 = false ∧ b5 = false) := by
    cases b1 <;> cases b2 <;> cases b3 <;> cases b4 <;> cases b5 <;> simp
  clear e1 e2 e3 e4 e5
  rcases hways with rfl | ⟨rfl, rfl⟩ | ⟨rfl, rfl, rfl⟩ | ⟨rfl, rfl, rfl, rfl⟩ | ⟨rfl, rfl, rfl, rfl, rfl⟩ | ⟨rfl, rfl, rfl, rfl, rfl⟩
  all_goals
    simp only [Bool.true_or, Bool.or_true, Bool.or_false] at hop
    rw [hop]
    clear hop
    go_enter Tryz.func197, Tryz.ntmps197
    go_wp2
    go_ret
    exact ⟨rfl, rfl⟩
set_option maxHeartbeats 4000000 in
theorem isVersion_any (v : ByteArray) (hv : v.size ≤ 4000) (w : World) (h : LaidV w) : Calls Tryz.prog 198 #[.string v] w fun e w' => e = .returned (.bool (decide ((parseE v.data.toList).2 = 0))) ∧ Below w.heap.size w w' := by
  have PV := parse_any v hv w h
  unfold ParsePost parseV verV at PV
  obtain ⟨k, hk⟩ : ∃ k : Int, (parseE v.data.toList).2 = k := ⟨_, rfl⟩
  obtain ⟨z, hz⟩ : ∃ z : Int, (parseE v.data.toList).1.1 = z := ⟨_, rfl⟩
  obtain ⟨U, hU⟩ : ∃ U : ByteArray, (⟨((parseE v.data.toList).1.2.1).toArray⟩ : ByteArray) = U := ⟨_, rfl⟩
  obtain ⟨V, hV⟩ : ∃ V : ByteArray, (⟨((parseE v.data.toList).1.2.2).toArray⟩ : ByteArray) = V := ⟨_, rfl⟩
  simp only [hk, hz, hU, hV] at PV ⊢
  have hkd : Hid (decide (k = 0) = (k == 0)) := Lib.hid rfl
  clear hk hz hU hV h
  go_enter Tryz.func198, Tryz.ntmps198
  go_wp2_with (go_at_call 75; (with_reducible refine PV.mono ?_); rintro e w2 ⟨rfl, hb⟩; have HB := Lib.hid (hb.alloc hb.size (.cells #[.int .i64 z, .string U, .string V] 61)); clear hb)
  go_ret
  exact ⟨retb hkd.out.symm, HB.out⟩
set_option maxRecDepth 100000 in
set_option maxHeartbeats 8000000 in
theorem rightR_any (n o v : ByteArray) (hn : n.size ≤ 4000) (hv : v.size ≤ 4000) (w : World) (hL : LaidV w) :
    Calls Tryz.prog 173 #[.agg #[.string n, .string o, .string v]] w fun e w' => e = .returned (.bool (rightR (n.data.toList, o.data.toList, v.data.toList))) ∧ Below w.heap.size w w' := by
  have NM := fun w => name_any n hn w
  have OP := fun w => operator_any o w
  have IV := fun w h => isVersion_any v hv w h
  obtain ⟨R, hR⟩ : ∃ R, rightR (n.data.toList, o.data.toList, v.data.toList) = R := ⟨_, rfl⟩
  have hrt := right_to (n.data.toList, o.data.toList, v.data.toList)
  rw [hR] at hrt ⊢
  have hez := emptyT o
  have hev := emptyT v
  have hal : ∀ (o : Obj), Below w.heap.size w (w.alloc o) := fun o => (Below.refl _ _).alloc (Nat.le_refl _) _
  have HAL := Lib.hid hal
  have HLA := Lib.hid (fun o => hL.on (hal o))
  clear hR hal hL
  cases hrt with
  | name h =>
    simp only [] at h
    simp only [h] at NM
    clear hez hev
    go_enter Tryz.func173, Tryz.ntmps173
    go_wp2_with (go_at_call 34; (with_reducible refine (NM _).mono ?_); rintro e w1 ⟨rfl, rfl⟩)
    go_ret
    exact ⟨rfl, HAL.out _⟩
  | bare h h2 =>
    simp only [] at h h2
    simp only [h] at NM
    have ho : o.size = 0 := by rw [sizeOf, h2]; rfl
    rw [decide_eq_true ho] at hez
    have hvv : decide (v.data.toList = []) = decide (v.size = 0) := by
      congr 1
      rw [sizeOf, List.length_eq_zero_iff]
    simp only [hvv]
    rw [h2, show opB [] = false from rfl] at OP
    obtain ⟨q, hq⟩ : ∃ q, decide (v.size = 0) = q := ⟨_, rfl⟩
    rw [hq] at hev ⊢
    clear ho h h2 hvv hq
    cases q
    all_goals
      go_enter Tryz.func173, Tryz.ntmps173
      go_wp2_with (first
        | (go_at_call 34; (with_reducible refine (NM _).mono ?_); rintro e w1 ⟨rfl, rfl⟩)
        | (go_at_call 197; (with_reducible refine (OP _).mono ?_); rintro e w2 ⟨rfl, rfl⟩))
      go_ret
      exact ⟨rfl, HAL.out _⟩
  | op h h2 =>
    simp only [] at h h2
    simp only [h] at NM
    have ho : ¬ o.size = 0 := fun e => h2 (List.eq_nil_of_length_eq_zero (by rw [← sizeOf]; exact e))
    rw [decide_eq_false ho] at hez
    obtain ⟨kb, hkb⟩ : ∃ kb, decide ((parseE v.data.toList).2 = 0) = kb := ⟨_, rfl⟩
    simp only [hkb] at IV ⊢
    obtain ⟨ob, hob⟩ : ∃ ob, opB o.data.toList = ob := ⟨_, rfl⟩
    simp only [hob] at OP ⊢
    clear ho h h2 hev hkb hob
    cases ob
    · go_enter Tryz.func173, Tryz.ntmps173
      go_wp2_with (first
        | (go_at_call 34; (with_reducible refine (NM _).mono ?_); rintro e w1 ⟨rfl, rfl⟩)
        | (go_at_call 197; (with_reducible refine (OP _).mono ?_); rintro e w2 ⟨rfl, rfl⟩))
      go_ret
      exact ⟨rfl, HAL.out _⟩
    · go_enter Tryz.func173, Tryz.ntmps173
      go_wp2_with (first
        | (go_at_call 34; (with_reducible refine (NM _).mono ?_); rintro e w1 ⟨rfl, rfl⟩)
        | (go_at_call 197; (with_reducible refine (OP _).mono ?_); rintro e w2 ⟨rfl, rfl⟩)
        | (go_at_call 198; (with_reducible refine (IV _ (HLA.out _)).mono ?_); rintro e w3 ⟨rfl, hb⟩; have HB := Lib.hid ((HAL.out _).trans (hb.mono (HAL.out _).size)); clear hb))
      go_ret
      exact ⟨rfl, HB.out⟩
set_option maxRecDepth 100000 in
set_option maxHeartbeats 4000000 in
theorem textR_any (n o v : ByteArray) (hn : n.size ≤ 100000) (ho : o.size ≤ 100000) (hv : v.size ≤ 100000) (w : World) :
    Calls Tryz.prog 135 #[.agg #[.string n, .string o, .string v]] w fun e w' => e = .returned (.string ⟨(textR (n.data.toList, o.data.toList, v.data.toList)).toArray⟩) ∧ Below w.heap.size w w' := by
  obtain ⟨T, hT⟩ : ∃ T : ByteArray, T = ⟨(textR (n.data.toList, o.data.toList, v.data.toList)).toArray⟩ := ⟨_, rfl⟩
  rw [← hT]
  have h1s : ∀ x, (ByteArray.mk #[x]).size = 1 := fun _ => rfl
  have h2s : ∀ x y, (ByteArray.mk #[x, y]).size = 2 := fun _ _ => rfl
  have hez := emptyT o
  by_cases h0 : o.size = 0
  · rw [decide_eq_true h0] at hez
    have HT : Hid (T = n) := Lib.hid (by
      rw [hT]; unfold textR
      rw [if_pos (List.eq_nil_of_length_eq_zero (by rw [← sizeOf]; exact h0))])
    clear hT h0
    go_enter Tryz.func135, Tryz.ntmps135
    go_wp2
    go_ret
    exact ⟨by rw [HT.out]; rfl, (Below.refl _ _).alloc (Nat.le_refl _) _⟩
  · rw [decide_eq_false h0] at hez
    have HT : Hid (T = ((((n ++ ⟨#[32, 40]⟩) ++ o) ++ ⟨#[32]⟩) ++ v) ++ ⟨#[41]⟩) := Lib.hid (by
      rw [hT]; unfold textR
      rw [if_neg (fun e => h0 (by rw [sizeOf, show o.data.toList = [] from e]; rfl))]
      refine (strOf ?_).symm
      simp only [ByteArray.data_append, Array.toList_append]
      simp)
    clear hT h0
    go_enter Tryz.func135, Tryz.ntmps135
    go_wp2
    go_ret
    exact ⟨by rw [HT.out]; rfl, (Below.refl _ _).alloc (Nat.le_refl _) _⟩
end Go.Proofs.YtbeoklihpkfofaaGreatDoor
