/-
  The program's Parse of a version: what it returns; nothing old turns. Condition: LaidV.
-/
import Derived.Test.YtkcamfcjkjiijaaGreatDoorPVPEpoch
import Derived.Test.YtkcamfcjkjiijaaGreatDoorPVParse
import Derived.BigRegion
namespace Go.Proofs.YtkcamfcjkjiijaaGreatDoor
open Go.RowKit
/-- The marks of an upstream version, with the colon. -/
abbrev m5 : Bs := [46, 43, 45, 126, 58]
theorem verOf_two (l : Bs) : (firstI 58 l = -1 ∧ verOf l = restV 0 m5 l) ∨ ∃ k : Nat, firstI 58 l = k ∧ k < l.length ∧ ((epochP (l.take k)).2 = 0 → verOf l = restV (epochP (l.take k)).1 m5 (l.drop (k + 1))) ∧ ((epochP (l.take k)).2 ≠ 0 → verOf l = none) := by
  rcases verOf_ways l with ⟨h, hv⟩ | ⟨k, h, hk, hbad, hgood⟩
  · left
    refine ⟨h, ?_⟩
    rw [hv, restV_plain (firstI_neg.1 (by omega))]
  · right
    have hlen : (l.take k).length = k := by rw [List.length_take]; omega
    refine ⟨k, h, hk, ?_⟩
    by_cases hy : l.take k ≠ [] ∧ (l.take k).length ≤ 9 ∧ (l.take k).all dgB = true
    · have hk1 : 1 ≤ k := by
        have := List.length_pos_iff.2 hy.1
        omega
      rw [epochP_yes hy]
      exact ⟨fun _ => (hgood hk1 (by rw [hlen] at hy; exact hy.2.1)).1 hy.2.2, fun g => absurd rfl g⟩
    · rw [epochP_no hy]
      refine ⟨fun g => absurd g (by decide), fun _ => ?_⟩
      by_cases hb : k < 1 ∨ 9 < k
      · exact hbad hb
      · refine (hgood (by omega) (by omega)).2 ?_
        cases ha : (l.take k).all dgB
        · rfl
        · exact absurd ⟨fun e => by rw [e] at hlen; simp at hlen; omega, by omega, ha⟩ hy
theorem occ_one (l : Bs) (c : UInt8) (k : Nat) (hk : k < l.length) : Lib.occAt l [c] k = (c == l[k]) := by
  unfold Lib.occAt
  rw [List.drop_eq_getElem_cons hk]
  simp [List.isPrefixOf]
theorem last_to (l : Bs) (c : UInt8) : ∀ k : Nat, k ≤ l.length → Lib.lastOcc l [c] k = lastI c (l.take k)
  | 0, _ => by simp [Lib.lastOcc, lastI]
  | k + 1, hk => by
    have ih := last_to l c k (by omega)
    have e : l.take (k + 1) = l.take k ++ [l[k]'(by omega)] := by rw [List.take_add_one, List.getElem?_eq_getElem (by omega)]; rfl
    have hlen : (l.take k).length = k := by rw [List.length_take]; omega
    rw [e, lastI_snoc]
    have ho := occ_one l c k (by omega)
    by_cases h : l[k]'(by omega) = c
    · rw [if_pos h, Lib.lastOcc_hit _ _ _ (by rw [ho, h]; simp), hlen]
    · rw [if_neg h, Lib.lastOcc_miss _ _ _ (by rw [ho]; simpa using fun g => h g.symm), ih]
theorem last_is (l : Bs) (c : UInt8) : Lib.lastIndex l [c] = lastI c l := by
  unfold Lib.lastIndex
  by_cases h : [c].length ≤ l.length
  · rw [if_pos h]
    have : l.length - [c].length + 1 = l.length := by simp at h ⊢; omega
    rw [this, last_to l c _ (Nat.le_refl _), List.take_length]
  · rw [if_neg h]
    have : l = [] := List.eq_nil_of_length_eq_zero (by simp at h; simp [h])
    subst this; rfl
theorem last_any (s : ByteArray) (hs : s.size ≤ 100000) (c : UInt8) (w : World) : Calls Tryz.prog 167 #[.string s, .string ⟨#[c]⟩] w fun e w' => e = .returned (.int .i64 (lastI c s.data.toList)) ∧ w = w' :=
  (Tryz.strings_LastIndex s ⟨#[c]⟩ (by omega) w).mono fun _ _ h => ⟨by rw [h.1]; exact congrArg (fun z => Ending.returned (.int .i64 z)) (last_is _ c), h.2.symm⟩
/-- A box of a version that may be written. -/
structure BoxV (w : World) (b : Nat) (z : Int) (u v : ByteArray) : Prop where
  c0 : w.cell? ⟨b, 0, none⟩ = some (.int .i64 z)
  c1 : w.cell? ⟨b, 1, none⟩ = some (.string u)
  c2 : w.cell? ⟨b, 2, none⟩ = some (.string v)
  f : ∀ i, w.frozen? ⟨b, i, none⟩ = false
theorem BoxV.new (A : World) (z : Int) (u v : ByteArray) (t : TypeId) : BoxV (A.alloc (.cells #[.int .i64 z, .string u, .string v] t)) A.heap.size z u v :=
  ⟨by simp [World.cell?_alloc_new], by simp [World.cell?_alloc_new], by simp [World.cell?_alloc_new], fun i => frozen_of_row _ A.heap.size i _ t (heap_alloc_new A _)⟩
theorem BoxV.on {A B : World} {b : Nat} {z : Int} {u v : ByteArray} (h : BoxV A b z u v) (hb : Below A.heap.size A B) : BoxV B b z u v := by
  have hlt := World.block_lt_of_cell? A _ h.c0
  have k := fun o => hb.cell (p := ⟨b, o, none⟩) hlt
  exact ⟨by rw [k]; exact h.c0, by rw [k]; exact h.c1, by rw [k]; exact h.c2, fun i => by rw [hb.frozen (p := ⟨b, i, none⟩) hlt]; exact h.f i⟩
theorem BoxV.al {A : World} {b : Nat} {z : Int} {u v : ByteArray} (h : BoxV A b z u v) (o : Obj) : BoxV (A.alloc o) b z u v := h.on ((Below.refl _ _).alloc (Nat.le_refl _) o)
theorem BoxV.dr {A : World} {b : Nat} {z : Int} {u v : ByteArray} (h : BoxV A b z u v) (q : Nat) : BoxV (A.drewN q) b z u v := h.on (belowQ (Below.refl _ _) q)
theorem setO (A : World) (b i j : Nat) (u : Value) (h : i ≠ j) : (A.setCell ⟨b, i, none⟩ u).cell? ⟨b, j, none⟩ = A.cell? ⟨b, j, none⟩ := World.cell?_setCell_other _ _ _ _ (fun e => h (congrArg Addr.off e))
theorem setB (A : World) (b b' i j : Nat) (u : Value) (h : b' ≠ b) : (A.setCell ⟨b', i, none⟩ u).cell? ⟨b, j, none⟩ = A.cell? ⟨b, j, none⟩ := World.cell?_setCell_other _ _ _ _ (fun e => h (congrArg Addr.block e))
theorem BoxV.set0 {A : World} {b : Nat} {z : Int} {u v : ByteArray} (h : BoxV A b z u v) (z' : Int) : BoxV (A.setCell ⟨b, 0, none⟩ (.int .i64 z')) b z' u v :=
  ⟨World.cell?_setCell_same _ _ _ h.c0, by rw [setO _ _ _ _ _ (by omega)]; exact h.c1, by rw [setO _ _ _ _ _ (by omega)]; exact h.c2, fun i => by rw [World.frozen?_setCell]; exact h.f i⟩
theorem BoxV.set1 {A : World} {b : Nat} {z : Int} {u v : ByteArray} (h : BoxV A b z u v) (u' : ByteArray) : BoxV (A.setCell ⟨b, 1, none⟩ (.string u')) b z u' v :=
  ⟨by rw [setO _ _ _ _ _ (by omega)]; exact h.c0, World.cell?_setCell_same _ _ _ h.c1, by rw [setO _ _ _ _ _ (by omega)]; exact h.c2, fun i => by rw [World.frozen?_setCell]; exact h.f i⟩
theorem BoxV.set2 {A : World} {b : Nat} {z : Int} {u v : ByteArray} (h : BoxV A b z u v) (v' : ByteArray) : BoxV (A.setCell ⟨b, 2, none⟩ (.string v')) b z u v' :=
  ⟨by rw [setO _ _ _ _ _ (by omega)]; exact h.c0, by rw [setO _ _ _ _ _ (by omega)]; exact h.c1, World.cell?_setCell_same _ _ _ h.c2, fun i => by rw [World.frozen?_setCell]; exact h.f i⟩
theorem BoxV.setX {A : World} {b : Nat} {z : Int} {u v : ByteArray} (h : BoxV A b z u v) {b' : Nat} (hb : b' ≠ b) (i : Nat) (x : Value) : BoxV (A.setCell ⟨b', i, none⟩ x) b z u v :=
  ⟨by rw [setB _ _ _ _ _ _ hb]; exact h.c0, by rw [setB _ _ _ _ _ _ hb]; exact h.c1, by rw [setB _ _ _ _ _ _ hb]; exact h.c2, fun i => by rw [World.frozen?_setCell]; exact h.f i⟩
abbrev putV (w : World) (b : Nat) (z : Int) (u v : ByteArray) : World := ((w.setCell ⟨b, 0, none⟩ (.int .i64 z)).setCell ⟨b, 1, none⟩ (.string u)).setCell ⟨b, 2, none⟩ (.string v)
theorem BoxV.put {w : World} {b : Nat} {z : Int} {u v : ByteArray} (h : BoxV w b z u v) (z' : Int) (u' v' : ByteArray) : BoxV (putV w b z' u' v') b z' u' v' := ((h.set0 z').set1 u').set2 v'
theorem putV_below {B : Nat} {w0 w : World} {b : Nat} (h : Below B w0 w) (hb : B ≤ b) (z : Int) (x y : ByteArray) : Below B w0 (putV w b z x y) := ((h.setCell (p := ⟨b, 0, none⟩) hb _).setCell (p := ⟨b, 1, none⟩) hb _).setCell (p := ⟨b, 2, none⟩) hb _
/-- What Cut tells, whatever comes. -/
def CutIs (s : ByteArray) (c : UInt8) (A B : ByteArray) (ok : Bool) : Prop :=
  (ok = false ∧ firstI c s.data.toList = -1 ∧ A = s ∧ B = ⟨#[]⟩) ∨ (ok = true ∧ ∃ k : Nat, firstI c s.data.toList = k ∧ k < s.size ∧ A = s.extract 0 k ∧ B = s.extract (k + 1) s.size)
theorem cut2_any (s : ByteArray) (hs : s.size ≤ 100000) (c : UInt8) (w : World) : Calls Tryz.prog 165 #[.string s, .string ⟨#[c]⟩] w fun e w' => ∃ (A B : ByteArray) (ok : Bool), e = .returned (.tuple #[.string A, .string B, .bool ok]) ∧ Hid (CutIs s c A B ok) ∧ ∃ q, w' = w.drewN q :=
  (cut1_any s hs c w).mono fun e w' hp => by
    obtain ⟨hq, ⟨h, he⟩ | ⟨k, h, hk, he⟩⟩ := hp
    · exact ⟨_, _, _, he, Lib.hid (.inl ⟨rfl, h, rfl, rfl⟩), hq⟩
    · exact ⟨_, _, _, he, Lib.hid (.inr ⟨rfl, k, h, hk, rfl, rfl⟩), hq⟩
set_option maxRecDepth 100000 in
set_option maxHeartbeats 8000000 in
theorem parse_any (s : ByteArray) (hs : s.size ≤ 4000) (w : World) (h : LaidV w) : Calls Tryz.prog 154 #[.string s] w (ParsePost s.data.toList w) := by
  have hl := sizeOf s
  by_cases h80 : 80 < s.size
  · have HP : Hid (∀ e w', e = .returned (.tuple #[.agg #[.int .i64 0, .string ⟨#[]⟩, .string ⟨#[]⟩], .int .i64 8]) → Below w.heap.size w w' → ParsePost s.data.toList w e w') := Lib.hid (fun e w' h g => ⟨by rw [parseV_long (by omega)]; exact h, g⟩)
    clear hl h
    go_enter Tryz.func154, Tryz.ntmps154
    go_wp2
    exact bodyPost_ret (v := .tuple #[.agg #[.int .i64 0, .string ⟨#[]⟩, .string ⟨#[]⟩], .int .i64 8]) (by simp [results, Tryz.results154, go_sem]) rfl (HP.out _ _ rfl ((Below.refl _ _).alloc (Nat.le_refl _) _))
  · have C58 := fun w => cut2_any s (by omega) 58 w
    have C4 := fun (x : ByteArray) (hx : x.size ≤ 4000) w => last_any x (by omega) 45 w
    have HL := Lib.hid h
    have HW := Lib.hid (verOf_two s.data.toList)
    have HV : Hid (∀ (l : ByteArray) (e : Int) (o : Option Ver), AtTail s l ⟨#[46, 43, 45, 126, 58]⟩ e → restV e m5 l.data.toList = o → parseV s.data.toList = parsedV o) := Lib.hid (fun l e o h1 h2 => verOf_parse (by omega) h1 h2)
    have HN : Hid (verOf s.data.toList = none → ∀ e w', e = .returned (.tuple #[.agg #[.int .i64 0, .string ⟨#[]⟩, .string ⟨#[]⟩], .int .i64 2]) → Below w.heap.size w w' → ParsePost s.data.toList w e w') := Lib.hid (fun hv e w' h g => ⟨by rw [parseV_none (by omega) hv]; exact h, g⟩)
    clear hl h
    go_enter Tryz.func154, Tryz.ntmps154
    go_upto_if 23 with (first | (go_at_call 165; refine (C58 _).mono ?_; rintro e w1 ⟨A, B, ok, rfl, HC, q, rfl⟩))
    go_cut [] (fun wx => ∃ (l : ByteArray) (e : Int), l.size ≤ 4000 ∧ Hid (AtTail s l ⟨#[46, 43, 45, 126, 58]⟩ e) ∧ BoxV wx (w.heap.size + 1) e l ⟨#[48]⟩ ∧ BoxV wx w.heap.size 0 ⟨#[]⟩ ⟨#[]⟩ ∧ Hid (Below w.heap.size w wx))
    case first =>
      clear C58 C4
      obtain ⟨W0, hW0⟩ : ∃ W0 : World, Hid (W0 = (w.alloc (.cells #[.int .i64 0, .string ⟨#[]⟩, .string ⟨#[]⟩] 147)).alloc (.cells #[.int .i64 0, .string s, .string ⟨#[48]⟩] 147)) := ⟨_, Lib.hid rfl⟩
      have HR0 : Hid (BoxV W0 w.heap.size 0 ⟨#[]⟩ ⟨#[]⟩) := Lib.hid (by rw [hW0.out]; exact (BoxV.new w _ _ _ _).al _)
      have HV0 : Hid (BoxV W0 (w.heap.size + 1) 0 s ⟨#[48]⟩) := Lib.hid (by rw [hW0.out]; have := BoxV.new (w.alloc (.cells #[.int .i64 0, .string ⟨#[]⟩, .string ⟨#[]⟩] 147)) 0 s ⟨#[48]⟩ 147; simpa using this)
      have HB0 : Hid (Below w.heap.size w W0) := Lib.hid (by rw [hW0.out]; exact ((Below.refl _ _).alloc (Nat.le_refl _) _).alloc (by simp) _)
      rw [← hW0.out]
      clear hW0
      rcases HC.out with ⟨rfl, h, rfl, rfl⟩ | ⟨rfl, k, h, hk, rfl, rfl⟩
      · have HT : Hid (AtTail A A ⟨#[46, 43, 45, 126, 58]⟩ 0) := Lib.hid (by
          rcases HW.out with ⟨_, hv⟩ | ⟨k, hk, _⟩
          · exact hv
          · omega)
        clear HW HC h HV HN
        go_wp2
        go_meet
        case rel => exact ⟨A, 0, hs, HT, HV0.out.dr _, HR0.out.dr _, Lib.hid (belowQ HB0.out _)⟩
      · have HK : Hid (((epochP (s.extract 0 k).data.toList).2 = 0 → AtTail s (s.extract (k + 1) s.size) ⟨#[46, 43, 45, 126, 58]⟩ (epochP (s.extract 0 k).data.toList).1) ∧ ((epochP (s.extract 0 k).data.toList).2 ≠ 0 → verOf s.data.toList = none)) := Lib.hid (by
          rcases HW.out with ⟨h', _⟩ | ⟨j, hj, _, h1, h2⟩
          · omega
          · obtain rfl : j = k := by omega
            have e1 : (s.extract 0 j).data.toList = s.data.toList.take j := by rw [extL]; simp
            rw [e1]
            refine ⟨fun g => ?_, h2⟩
            unfold AtTail
            rw [h1 g, ext_all])
        have E := fun (w' : World) (hw : LaidV w') => epoch_any (s.extract 0 k) (by rw [ByteArray.size_extract]; omega) w' hw
        unfold EpochPost at E
        have hes : (epochP (s.extract 0 k).data.toList).2 = 0 ∨ (epochP (s.extract 0 k).data.toList).2 = 2 := by unfold epochP; split <;> simp
        generalize epochP (s.extract 0 k).data.toList = ep at *
        obtain ⟨z, er⟩ := ep
        simp only [] at HK E hes
        have HLB : Hid (LaidV W0) := Lib.hid (HL.out.on HB0.out)
        clear HW HC h HL
        rcases hes with rfl | rfl
        · have HT := Lib.hid (HK.out.1 rfl)
          have hx : (s.extract (k + 1) s.size).size ≤ 4000 := by rw [ByteArray.size_extract]; omega
          clear HK HV HN
          go_wp2_with (go_at_call 166; refine (E _ (LaidV.dr HLB _)).mono ?_; rintro e w2 ⟨rfl, hb⟩; obtain ⟨r0, r1, r2, rf⟩ := (HR0.out.dr q).on hb; obtain ⟨v0, v1, v2, vf⟩ := (HV0.out.dr q).on hb; have HBX := Lib.hid (fin (belowQ HB0.out q) hb); clear hb E)
          go_meet
          case rel => exact ⟨_, z, hx, HT, (BoxV.set0 ⟨v0, v1, v2, vf⟩ z).set1 _, ((BoxV.setX ⟨r0, r1, r2, rf⟩ (by omega) _ _).setX (by omega) _ _), Lib.hid ((HBX.out.setCell (by simp) _).setCell (by simp) _)⟩
        · have HT := Lib.hid (HK.out.2 (by decide))
          clear HK HV HV0
          go_wp2_with (go_at_call 166; refine (E _ (LaidV.dr HLB _)).mono ?_; rintro e w2 ⟨rfl, hb⟩; obtain ⟨r0, r1, r2, rf⟩ := (HR0.out.dr q).on hb; have HBX := Lib.hid (fin (belowQ HB0.out q) hb); clear hb E)
          obtain ⟨k0, k1, k2, _⟩ := BoxV.put ⟨r0, r1, r2, rf⟩ 0 ⟨#[]⟩ ⟨#[]⟩
          exact bodyPost_ret (v := .tuple #[.agg #[.int .i64 0, .string ⟨#[]⟩, .string ⟨#[]⟩], .int .i64 2]) (by simp [results, Tryz.results154, go_sem, k0, k1, k2]) rfl (HN.out HT.out _ _ rfl (putV_below HBX.out (Nat.le_refl _) _ _ _))
    case rest =>
      obtain ⟨l, e, hll, HT, ⟨c0, c1, c2, cf⟩, HR, HB⟩ := hcut
      have D4 := C4 l hll
      have hlb := lastI_bd 45 l.data.toList
      have hlz := sizeOf l
      have HC : Hid ((lastI 45 l.data.toList < 0 → Cut2 l l ⟨#[48]⟩) ∧ ∀ k : Nat, lastI 45 l.data.toList = k → Cut2 l (l.extract 0 k) (l.extract (k + 1) l.size)) := Lib.hid ⟨cut_none, fun k => cut_some⟩
      generalize lastI 45 l.data.toList = zh at D4 hlb HC
      have hzh : -1 ≤ zh ∧ (zh < l.size ∨ zh = -1) := by rcases hlb with h | h <;> omega
      obtain ⟨hzh1, hzh2⟩ := hzh
      have HBX := Lib.hid (BoxV.mk c0 c1 c2 cf)
      clear hlb hlz HN C58 C4 HW
      go_upto_if 41 with (first | (go_at_call 167; refine (D4 _).mono ?_; rintro e1 w1 ⟨rfl, rfl⟩))
      go_cut [] (fun wx => ∃ (U V : ByteArray), U.size ≤ 4000 ∧ V.size ≤ 4000 ∧ Hid (Cut2 l U V) ∧ BoxV wx (w.heap.size + 1) e U V ∧ BoxV wx w.heap.size 0 ⟨#[]⟩ ⟨#[]⟩ ∧ Hid (Below w.heap.size w wx))
      case first =>
        clear D4
        have hf0 := cf 0
        have hf1 := cf 1
        have hf2 := cf 2
        clear cf
        by_cases hz : zh < 0
        · have HU := Lib.hid (HC.out.1 hz)
          clear HC
          go_wp2
          go_meet
          case rel => exact ⟨l, ⟨#[48]⟩, hll, by decide, HU, HBX.out, HR, HB⟩
        · obtain ⟨k, rfl⟩ : ∃ k : Nat, zh = k := ⟨zh.toNat, by omega⟩
          have HU := Lib.hid (HC.out.2 k rfl)
          have hk : k < l.size := by omega
          clear HC hzh1 hzh2 hz
          go_wp2
          go_region
          go_wp2
          go_meet
          case rel => exact ⟨l.extract 0 k, l.extract (k + 1) l.size, by rw [ByteArray.size_extract]; omega, by rw [ByteArray.size_extract]; omega, HU, by first | exact ((HBX.out.set1 _).set2 _).dr _ | exact ((HBX.out.dr _).set1 _).set2 _, by first | exact (((BoxV.setX HR (by omega) _ _).setX (by omega) _ _)).dr _ | exact ((HR.dr _).setX (by omega) _ _).setX (by omega) _ _, Lib.hid (by first | exact belowQ ((HB.out.setCell (by simp) _).setCell (by simp) _) _ | exact ((belowQ HB.out _).setCell (by simp) _).setCell (by simp) _)⟩
      case rest =>
        obtain ⟨U, V, hU, hV, HU, ⟨d0, d1, d2, df⟩, ⟨r0, r1, r2, rf⟩, HB2⟩ := hcut
        clear D4 HC hzh1 hzh2 HB HBX c0 c1 c2 cf HR
        have HO := Lib.hid (HV.out l e (restV e m5 l.data.toList) HT.out rfl)
        have hcu : cutHy l.data.toList = (U.data.toList, V.data.toList) := HU.out
        have RU := fun w => rightUp_any U (by omega) w
        have RV := fun w => rightRev_any V (by omega) w
        have HRS : Hid (parseV s.data.toList = parsedV (if (headDg U.data.toList && onlyB m5 U.data.toList) = true ∧ (decide (0 < V.size) && onlyB [46, 43, 126] V.data.toList) = true then some (e, U.data.toList, V.data.toList) else none)) := Lib.hid (by
          rw [HO.out]
          unfold restV
          rw [hcu]
          congr 1
          have hv : V.data.toList ≠ [] ↔ 0 < V.size := by rw [sizeOf, List.length_pos_iff]
          simp only [Bool.and_eq_true, decide_eq_true_eq, hv]
          congr 1
          exact propext ⟨fun ⟨a, b, c, d⟩ => ⟨⟨a, b⟩, c, d⟩, fun ⟨⟨a, b⟩, c, d⟩ => ⟨a, b, c, d⟩⟩)
        generalize (headDg U.data.toList && onlyB m5 U.data.toList) = b1 at *
        generalize (decide (0 < V.size) && onlyB [46, 43, 126] V.data.toList) = b2 at *
        clear HU hcu HO HV HT
        cases b1
        · have HF : Hid (Value.tuple #[.agg #[.int .i64 0, .string ⟨#[]⟩, .string ⟨#[]⟩], .int .i64 2] = parseV s.data.toList) := Lib.hid (by rw [HRS.out, if_neg (by simp)]; rfl)
          clear RV HRS
          go_wp2_with (first | (go_at_call 168; refine (RU _).mono ?_; rintro e1 w1 ⟨rfl, rfl⟩))
          obtain ⟨k0, k1, k2, _⟩ := BoxV.put ⟨r0, r1, r2, rf⟩ 0 ⟨#[]⟩ ⟨#[]⟩
          exact bodyPost_ret (v := .tuple #[.agg #[.int .i64 0, .string ⟨#[]⟩, .string ⟨#[]⟩], .int .i64 2]) (by simp [results, Tryz.results154, go_sem, k0, k1, k2]) rfl ⟨congrArg Ending.returned HF.out, putV_below HB2.out (Nat.le_refl _) _ _ _⟩
        · cases b2
          · have HF : Hid (Value.tuple #[.agg #[.int .i64 0, .string ⟨#[]⟩, .string ⟨#[]⟩], .int .i64 2] = parseV s.data.toList) := Lib.hid (by rw [HRS.out, if_neg (by simp)]; rfl)
            clear HRS
            go_wp2_with (first | (go_at_call 168; refine (RU _).mono ?_; rintro e1 w1 ⟨rfl, rfl⟩) | (go_at_call 169; refine (RV _).mono ?_; rintro e1 w1 ⟨rfl, rfl⟩))
            obtain ⟨k0, k1, k2, _⟩ := BoxV.put ⟨r0, r1, r2, rf⟩ 0 ⟨#[]⟩ ⟨#[]⟩
            exact bodyPost_ret (v := .tuple #[.agg #[.int .i64 0, .string ⟨#[]⟩, .string ⟨#[]⟩], .int .i64 2]) (by simp [results, Tryz.results154, go_sem, k0, k1, k2]) rfl ⟨congrArg Ending.returned HF.out, putV_below HB2.out (Nat.le_refl _) _ _ _⟩
          · have HF : Hid (Value.tuple #[.agg #[.int .i64 e, .string U, .string V], .int .i64 0] = parseV s.data.toList) := Lib.hid (by
              rw [HRS.out, if_pos ⟨rfl, rfl⟩]
              show _ = Value.tuple #[verV (e, U.data.toList, V.data.toList), .int .i64 0]
              unfold verV
              rw [← strOf (x := U) rfl, ← strOf (x := V) rfl])
            clear HRS
            go_wp2_with (first | (go_at_call 168; refine (RU _).mono ?_; rintro e1 w1 ⟨rfl, rfl⟩) | (go_at_call 169; refine (RV _).mono ?_; rintro e1 w1 ⟨rfl, rfl⟩))
            obtain ⟨k0, k1, k2, _⟩ := BoxV.put ⟨r0, r1, r2, rf⟩ e U V
            exact bodyPost_ret (v := .tuple #[.agg #[.int .i64 e, .string U, .string V], .int .i64 0]) (by simp [results, Tryz.results154, go_sem, k0, k1, k2]) rfl ⟨congrArg Ending.returned HF.out, putV_below HB2.out (Nat.le_refl _) _ _ _⟩
end Go.Proofs.YtkcamfcjkjiijaaGreatDoor
