import Derived.Test.YtnnagboeimeiiaaGreatDoorWVPEpoch
import Derived.Test.YtnnagboeimeiiaaGreatDoorWVParse
import Derived.BigRegion
import Derived.Test.YtnnagboeimeiiaaGreatDoorWSWords
import Derived.RangeFuncBox
import Derived.RangeFuncNested
import Derived.RangeFuncBound
import Derived.RangeFuncCalls
import Derived.RangeFuncLeaves
import Derived.Shelf.Abstract
import Derived.Shelf.RegionOpen
import Derived.OwnWalkIn
import Derived.TacticsInMore
import Derived.LoopNIn
import Derived.LoopIn
import Derived.Maps.AppendAt
namespace Go.Proofs.YtnnagboeimeiiaaGreatDoor
open Go.RowKit
abbrev m5 : Bs := [46, 43, 45, 126, 58]
theorem verOf_two (l : Bs) : (firstI 58 l = -1 ∧ verOf l = restV 0 m5 l) ∨ ∃ k : Nat, firstI 58 l = k ∧ k < l.length ∧ ((epochP (l.take k)).2 = 0 → verOf l = restV (epochP (l.take k)).1 m5 (l.drop (k + 1))) ∧ ((epochP (l.take k)).2 ≠ 0 → verOf l = none) := by
 rcases verOf_ways l with ⟨h, hv⟩ | ⟨k, h, hk, hbad, hgood⟩
 · left
   refine ⟨h, ?_⟩
   rw [hv, restV_plain (firstI_neg.1 (by omega))]
 · right
   have hlen : (l.take k).length = k := by rw [List.length_take]; omega
   refine ⟨k, h, hk, ?_⟩
   by_cases hy : l.take k ≠ [] ∧ (l.take k).length ≤ 9 ∧ (l.take k).all dgB = true
   · have hk1 : 1 ≤ k := by
       have := List.length_pos_iff.2 hy.1
       omega
     rw [epochP_yes hy]
     exact ⟨fun _ => (hgood hk1 (by rw [hlen] at hy; exact hy.2.1)).1 hy.2.2, fun g => absurd rfl g⟩
   · rw [epochP_no hy]
     refine ⟨fun g => absurd g (by decide), fun _ => ?_⟩
     by_cases hb : k < 1 ∨ 9 < k
     · exact hbad hb
     · refine (hgood (by omega) (by omega)).2 ?_
       cases ha : (l.take k).all dgB
       · rfl
       · exact absurd ⟨fun e => by rw [e] at hlen; simp at hlen; omega, by omega, ha⟩ hy
theorem occ_one (l : Bs) (c : UInt8) (k : Nat) (hk : k < l.length) : Lib.occAt l [c] k = (c == l[k]) := by
 unfold Lib.occAt
 rw [List.drop_eq_getElem_cons hk]
 simp [List.isPrefixOf]
theorem last_to (l : Bs) (c : UInt8) : ∀ k : Nat, k ≤ l.length → Lib.lastOcc l [c] k = lastI c (l.take k)
 | 0, _ => by simp [Lib.lastOcc, lastI]
 | k + 1, hk => by
   have ih := last_to l c k (by omega)
   have e : l.take (k + 1) = l.take k ++ [l[k]'(by omega)] := by rw [List.take_add_one, List.getElem?_eq_getElem (by omega)]; rfl
   have hlen : (l.take k).length = k := by rw [List.length_take]; omega
   rw [e, lastI_snoc]
   have ho := occ_one l c k (by omega)
   by_cases h : l[k]'(by omega) = c
   · rw [if_pos h, Lib.lastOcc_hit _ _ _ (by rw [ho, h]; simp), hlen]
   · rw [if_neg h, Lib.lastOcc_miss _ _ _ (by rw [ho]; simpa using fun g => h g.symm), ih]
theorem last_is (l : Bs) (c : UInt8) : Lib.lastIndex l [c] = lastI c l := by
 unfold Lib.lastIndex
 by_cases h : [c].length ≤ l.length
 · rw [if_pos h]
   have : l.length - [c].length + 1 = l.length := by simp at h ⊢; omega
   rw [this, last_to l c _ (Nat.le_refl _), List.take_length]
 · rw [if_neg h]
   have : l = [] := List.eq_nil_of_length_eq_zero (by simp at h; simp [h])
   subst this; rfl
theorem last_any (s : ByteArray) (hs : s.size ≤ 100000) (c : UInt8) (w : World) : Calls Tryz.prog 143 #[.string s, .string ⟨#[c]⟩] w fun e w' => e = .returned (.int .i64 (lastI c s.data.toList)) ∧ w = w' :=
 (Tryz.strings_LastIndex s ⟨#[c]⟩ (by omega) w).mono fun _ _ h => ⟨by rw [h.1]; exact congrArg (fun z => Ending.returned (.int .i64 z)) (last_is _ c), h.2.symm⟩
structure BoxV (w : World) (b : Nat) (z : Int) (u v : ByteArray) : Prop where
 c0 : w.cell? ⟨b, 0, none⟩ = some (.int .i64 z)
 c1 : w.cell? ⟨b, 1, none⟩ = some (.string u)
 c2 : w.cell? ⟨b, 2, none⟩ = some (.string v)
 f : ∀ i, w.frozen? ⟨b, i, none⟩ = false
theorem BoxV.new (A : World) (z : Int) (u v : ByteArray) (t : TypeId) : BoxV (A.alloc (.cells #[.int .i64 z, .string u, .string v] t)) A.heap.size z u v :=
 ⟨by simp [World.cell?_alloc_new], by simp [World.cell?_alloc_new], by simp [World.cell?_alloc_new], fun i => frozen_of_row _ A.heap.size i _ t (heap_alloc_new A _)⟩
theorem BoxV.on {A B : World} {b : Nat} {z : Int} {u v : ByteArray} (h : BoxV A b z u v) (hb : Below A.heap.size A B) : BoxV B b z u v := by
 have hlt := World.block_lt_of_cell? A _ h.c0
 have k := fun o => hb.cell (p := ⟨b, o, none⟩) hlt
 exact ⟨by rw [k]; exact h.c0, by rw [k]; exact h.c1, by rw [k]; exact h.c2, fun i => by rw [hb.frozen (p := ⟨b, i, none⟩) hlt]; exact h.f i⟩
theorem BoxV.al {A : World} {b : Nat} {z : Int} {u v : ByteArray} (h : BoxV A b z u v) (o : Obj) : BoxV (A.alloc o) b z u v := h.on ((Below.refl _ _).alloc (Nat.le_refl _) o)
theorem BoxV.dr {A : World} {b : Nat} {z : Int} {u v : ByteArray} (h : BoxV A b z u v) (q : Nat) : BoxV (A.drewN q) b z u v := h.on (belowQ (Below.refl _ _) q)
theorem setO (A : World) (b i j : Nat) (u : Value) (h : i ≠ j) : (A.setCell ⟨b, i, none⟩ u).cell? ⟨b, j, none⟩ = A.cell? ⟨b, j, none⟩ := World.cell?_setCell_other _ _ _ _ (fun e => h (congrArg Addr.off e))
theorem setB (A : World) (b b' i j : Nat) (u : Value) (h : b' ≠ b) : (A.setCell ⟨b', i, none⟩ u).cell? ⟨b, j, none⟩ = A.cell? ⟨b, j, none⟩ := World.cell?_setCell_other _ _ _ _ (fun e => h (congrArg Addr.block e))
theorem BoxV.set0 {A : World} {b : Nat} {z : Int} {u v : ByteArray} (h : BoxV A b z u v) (z' : Int) : BoxV (A.setCell ⟨b, 0, none⟩ (.int .i64 z')) b z' u v :=
 ⟨World.cell?_setCell_same _ _ _ h.c0, by rw [setO _ _ _ _ _ (by omega)]; exact h.c1, by rw [setO _ _ _ _ _ (by omega)]; exact h.c2, fun i => by rw [World.frozen?_setCell]; exact h.f i⟩
theorem BoxV.set1 {A : World} {b : Nat} {z : Int} {u v : ByteArray} (h : BoxV A b z u v) (u' : ByteArray) : BoxV (A.setCell ⟨b, 1, none⟩ (.string u')) b z u' v :=
 ⟨by rw [setO _ _ _ _ _ (by omega)]; exact h.c0, World.cell?_setCell_same _ _ _ h.c1, by rw [setO _ _ _ _ _ (by omega)]; exact h.c2, fun i => by rw [World.frozen?_setCell]; exact h.f i⟩
theorem BoxV.set2 {A : World} {b : Nat} {z : Int} {u v : ByteArray} (h : BoxV A b z u v) (v' : ByteArray) : BoxV (A.setCell ⟨b, 2, none⟩ (.string v')) b z u v' :=
 ⟨by rw [setO _ _ _ _ _ (by omega)]; exact h.c0, by rw [setO _ _ _ _ _ (by omega)]; exact h.c1, World.cell?_setCell_same _ _ _ h.c2, fun i => by rw [World.frozen?_setCell]; exact h.f i⟩
theorem BoxV.setX {A : World} {b : Nat} {z : Int} {u v : ByteArray} (h : BoxV A b z u v) {b' : Nat} (hb : b' ≠ b) (i : Nat) (x : Value) : BoxV (A.setCell ⟨b', i, none⟩ x) b z u v :=
 ⟨by rw [setB _ _ _ _ _ _ hb]; exact h.c0, by rw [setB _ _ _ _ _ _ hb]; exact h.c1, by rw [setB _ _ _ _ _ _ hb]; exact h.c2, fun i => by rw [World.frozen?_setCell]; exact h.f i⟩
abbrev putV (w : World) (b : Nat) (z : Int) (u v : ByteArray) : World := ((w.setCell ⟨b, 0, none⟩ (.int .i64 z)).setCell ⟨b, 1, none⟩ (.string u)).setCell ⟨b, 2, none⟩ (.string v)
theorem BoxV.put {w : World} {b : Nat} {z : Int} {u v : ByteArray} (h : BoxV w b z u v) (z' : Int) (u' v' : ByteArray) : BoxV (putV w b z' u' v') b z' u' v' := ((h.set0 z').set1 u').set2 v'
theorem putV_below {B : Nat} {w0 w : World} {b : Nat} (h : Below B w0 w) (hb : B ≤ b) (z : Int) (x y : ByteArray) : Below B w0 (putV w b z x y) := ((h.setCell (p := ⟨b, 0, none⟩) hb _).setCell (p := ⟨b, 1, none⟩) hb _).setCell (p := ⟨b, 2, none⟩) hb _
def CutIs (s : ByteArray) (c : UInt8) (A B : ByteArray) (ok : Bool) : Prop :=
 (ok = false ∧ firstI c s.data.toList = -1 ∧ A = s ∧ B = ⟨#[]⟩) ∨ (ok = true ∧ ∃ k : Nat, firstI c s.data.toList = k ∧ k < s.size ∧ A = s.extract 0 k ∧ B = s.extract (k + 1) s.size)
theorem cut2_any (s : ByteArray) (hs : s.size ≤ 100000) (c : UInt8) (w : World) : Calls Tryz.prog 140 #[.string s, .string ⟨#[c]⟩] w fun e w' => ∃ (A B : ByteArray) (ok : Bool), e = .returned (.tuple #[.string A, .string B, .bool ok]) ∧ Hid (CutIs s c A B ok) ∧ ∃ q, w' = w.drewN q :=
 (cut1_any s hs c w).mono fun e w' hp => by
   obtain ⟨hq, ⟨h, he⟩ | ⟨k, h, hk, he⟩⟩ := hp
   · exact ⟨_, _, _, he, Lib.hid (.inl ⟨rfl, h, rfl, rfl⟩), hq⟩
   · exact ⟨_, _, _, he, Lib.hid (.inr ⟨rfl, k, h, hk, rfl, rfl⟩), hq⟩
set_option maxRecDepth 100000 in
set_option maxHeartbeats 8000000 in
theorem parse_any (s : ByteArray) (hs : s.size ≤ 4000) (w : World) (h : LaidV w) : Calls Tryz.prog 95 #[.string s] w (ParsePost s.data.toList w) := by
 have hl := sizeOf s
 by_cases h80 : 80 < s.size
 · have HP : Hid (∀ e w', e = .returned (.tuple #[.agg #[.int .i64 0, .string ⟨#[]⟩, .string ⟨#[]⟩], .int .i64 8]) → Below w.heap.size w w' → ParsePost s.data.toList w e w') := Lib.hid (fun e w' h g => ⟨by rw [parseV_long (by omega)]; exact h, g⟩)
   clear hl h
   go_enter Tryz.func95, Tryz.ntmps95
   go_wp2
   exact bodyPost_ret (v := .tuple #[.agg #[.int .i64 0, .string ⟨#[]⟩, .string ⟨#[]⟩], .int .i64 8]) (by simp [results, Tryz.results95, go_sem]) rfl (HP.out _ _ rfl ((Below.refl _ _).alloc (Nat.le_refl _) _))
 · have C58 := fun w => cut2_any s (by omega) 58 w
   have C4 := fun (x : ByteArray) (hx : x.size ≤ 4000) w => last_any x (by omega) 45 w
   have HL := Lib.hid h
   have HW := Lib.hid (verOf_two s.data.toList)
   have HV : Hid (∀ (l : ByteArray) (e : Int) (o : Option Ver), AtTail s l ⟨#[46, 43, 45, 126, 58]⟩ e → restV e m5 l.data.toList = o → parseV s.data.toList = parsedV o) := Lib.hid (fun l e o h1 h2 => verOf_parse (by omega) h1 h2)
   have HN : Hid (verOf s.data.toList = none → ∀ e w', e = .returned (.tuple #[.agg #[.int .i64 0, .string ⟨#[]⟩, .string ⟨#[]⟩], .int .i64 2]) → Below w.heap.size w w' → ParsePost s.data.toList w e w') := Lib.hid (fun hv e w' h g => ⟨by rw [parseV_none (by omega) hv]; exact h, g⟩)
   clear hl h
   go_enter Tryz.func95, Tryz.ntmps95
   go_upto_if 23 with (first | (go_at_call 140; refine (C58 _).mono ?_; rintro e w1 ⟨A, B, ok, rfl, HC, q, rfl⟩))
   go_cut [] (fun wx => ∃ (l : ByteArray) (e : Int), l.size ≤ 4000 ∧ Hid (AtTail s l ⟨#[46, 43, 45, 126, 58]⟩ e) ∧ BoxV wx (w.heap.size + 1) e l ⟨#[48]⟩ ∧ BoxV wx w.heap.size 0 ⟨#[]⟩ ⟨#[]⟩ ∧ Hid (Below w.heap.size w wx))
   case first =>
     clear C58 C4
     obtain ⟨W0, hW0⟩ : ∃ W0 : World, Hid (W0 = (w.alloc (.cells #[.int .i64 0, .string ⟨#[]⟩, .string ⟨#[]⟩] 81)).alloc (.cells #[.int .i64 0, .string s, .string ⟨#[48]⟩] 81)) := ⟨_, Lib.hid rfl⟩
     have HR0 : Hid (BoxV W0 w.heap.size 0 ⟨#[]⟩ ⟨#[]⟩) := Lib.hid (by rw [hW0.out]; exact (BoxV.new w _ _ _ _).al _)
     have HV0 : Hid (BoxV W0 (w.heap.size + 1) 0 s ⟨#[48]⟩) := Lib.hid (by rw [hW0.out]; have := BoxV.new (w.alloc (.cells #[.int .i64 0, .string ⟨#[]⟩, .string ⟨#[]⟩] 81)) 0 s ⟨#[48]⟩ 81; simpa using this)
     have HB0 : Hid (Below w.heap.size w W0) := Lib.hid (by rw [hW0.out]; exact ((Below.refl _ _).alloc (Nat.le_refl _) _).alloc (by simp) _)
     rw [← hW0.out]
     clear hW0
     rcases HC.out with ⟨rfl, h, rfl, rfl⟩ | ⟨rfl, k, h, hk, rfl, rfl⟩
     · have HT : Hid (AtTail A A ⟨#[46, 43, 45, 126, 58]⟩ 0) := Lib.hid (by
         rcases HW.out with ⟨_, hv⟩ | ⟨k, hk, _⟩
         · exact hv
         · omega)
       clear HW HC h HV HN
       go_wp2
       go_meet
       case rel => exact ⟨A, 0, hs, HT, HV0.out.dr _, HR0.out.dr _, Lib.hid (belowQ HB0.out _)⟩
     · have HK : Hid (((epochP (s.extract 0 k).data.toList).2 = 0 → AtTail s (s.extract (k + 1) s.size) ⟨#[46, 43, 45, 126, 58]⟩ (epochP (s.extract 0 k).data.toList).1) ∧ ((epochP (s.extract 0 k).data.toList).2 ≠ 0 → verOf s.data.toList = none)) := Lib.hid (by
         rcases HW.out with ⟨h', _⟩ | ⟨j, hj, _, h1, h2⟩
         · omega
         · obtain rfl : j = k := by omega
           have e1 : (s.extract 0 j).data.toList = s.data.toList.take j := by rw [extL]; simp
           rw [e1]
           refine ⟨fun g => ?_, h2⟩
           unfold AtTail
           rw [h1 g, ext_all])
       have E := fun (w' : World) (hw : LaidV w') => epoch_any (s.extract 0 k) (by rw [ByteArray.size_extract]; omega) w' hw
       unfold EpochPost at E
       have hes : (epochP (s.extract 0 k).data.toList).2 = 0 ∨ (epochP (s.extract 0 k).data.toList).2 = 2 := by unfold epochP; split <;> simp
       generalize epochP (s.extract 0 k).data.toList = ep at *
       obtain ⟨z, er⟩ := ep
       simp only [] at HK E hes
       have HLB : Hid (LaidV W0) := Lib.hid (HL.out.on HB0.out)
       clear HW HC h HL
       rcases hes with rfl | rfl
       · have HT := Lib.hid (HK.out.1 rfl)
         have hx : (s.extract (k + 1) s.size).size ≤ 4000 := by rw [ByteArray.size_extract]; omega
         clear HK HV HN
         go_wp2_with (go_at_call 142; refine (E _ (LaidV.dr HLB _)).mono ?_; rintro e w2 ⟨rfl, hb⟩; obtain ⟨r0, r1, r2, rf⟩ := (HR0.out.dr q).on hb; obtain ⟨v0, v1, v2, vf⟩ := (HV0.out.dr q).on hb; have HBX := Lib.hid (fin (belowQ HB0.out q) hb); clear hb E)
         go_meet
         case rel => exact ⟨_, z, hx, HT, (BoxV.set0 ⟨v0, v1, v2, vf⟩ z).set1 _, ((BoxV.setX ⟨r0, r1, r2, rf⟩ (by omega) _ _).setX (by omega) _ _), Lib.hid ((HBX.out.setCell (by simp) _).setCell (by simp) _)⟩
       · have HT := Lib.hid (HK.out.2 (by decide))
         clear HK HV HV0
         go_wp2_with (go_at_call 142; refine (E _ (LaidV.dr HLB _)).mono ?_; rintro e w2 ⟨rfl, hb⟩; obtain ⟨r0, r1, r2, rf⟩ := (HR0.out.dr q).on hb; have HBX := Lib.hid (fin (belowQ HB0.out q) hb); clear hb E)
         obtain ⟨k0, k1, k2, _⟩ := BoxV.put ⟨r0, r1, r2, rf⟩ 0 ⟨#[]⟩ ⟨#[]⟩
         exact bodyPost_ret (v := .tuple #[.agg #[.int .i64 0, .string ⟨#[]⟩, .string ⟨#[]⟩], .int .i64 2]) (by simp [results, Tryz.results95, go_sem, k0, k1, k2]) rfl (HN.out HT.out _ _ rfl (putV_below HBX.out (Nat.le_refl _) _ _ _))
   case rest =>
     obtain ⟨l, e, hll, HT, ⟨c0, c1, c2, cf⟩, HR, HB⟩ := hcut
     have D4 := C4 l hll
     have hlb := lastI_bd 45 l.data.toList
     have hlz := sizeOf l
     have HC : Hid ((lastI 45 l.data.toList < 0 → Cut2 l l ⟨#[48]⟩) ∧ ∀ k : Nat, lastI 45 l.data.toList = k → Cut2 l (l.extract 0 k) (l.extract (k + 1) l.size)) := Lib.hid ⟨cut_none, fun k => cut_some⟩
     generalize lastI 45 l.data.toList = zh at D4 hlb HC
     have hzh : -1 ≤ zh ∧ (zh < l.size ∨ zh = -1) := by rcases hlb with h | h <;> omega
     obtain ⟨hzh1, hzh2⟩ := hzh
     have HBX := Lib.hid (BoxV.mk c0 c1 c2 cf)
     clear hlb hlz HN C58 C4 HW
     go_upto_if 41 with (first | (go_at_call 143; refine (D4 _).mono ?_; rintro e1 w1 ⟨rfl, rfl⟩))
     go_cut [] (fun wx => ∃ (U V : ByteArray), U.size ≤ 4000 ∧ V.size ≤ 4000 ∧ Hid (Cut2 l U V) ∧ BoxV wx (w.heap.size + 1) e U V ∧ BoxV wx w.heap.size 0 ⟨#[]⟩ ⟨#[]⟩ ∧ Hid (Below w.heap.size w wx))
     case first =>
       clear D4
       have hf0 := cf 0
       have hf1 := cf 1
       have hf2 := cf 2
       clear cf
       by_cases hz : zh < 0
       · have HU := Lib.hid (HC.out.1 hz)
         clear HC
         go_wp2
         go_meet
         case rel => exact ⟨l, ⟨#[48]⟩, hll, by decide, HU, HBX.out, HR, HB⟩
       · obtain ⟨k, rfl⟩ : ∃ k : Nat, zh = k := ⟨zh.toNat, by omega⟩
         have HU := Lib.hid (HC.out.2 k rfl)
         have hk : k < l.size := by omega
         clear HC hzh1 hzh2 hz
         go_wp2
         go_region
         go_wp2
         go_meet
         case rel => exact ⟨l.extract 0 k, l.extract (k + 1) l.size, by rw [ByteArray.size_extract]; omega, by rw [ByteArray.size_extract]; omega, HU, by first | exact ((HBX.out.set1 _).set2 _).dr _ | exact ((HBX.out.dr _).set1 _).set2 _, by first | exact (((BoxV.setX HR (by omega) _ _).setX (by omega) _ _)).dr _ | exact ((HR.dr _).setX (by omega) _ _).setX (by omega) _ _, Lib.hid (by first | exact belowQ ((HB.out.setCell (by simp) _).setCell (by simp) _) _ | exact ((belowQ HB.out _).setCell (by simp) _).setCell (by simp) _)⟩
     case rest =>
       obtain ⟨U, V, hU, hV, HU, ⟨d0, d1, d2, df⟩, ⟨r0, r1, r2, rf⟩, HB2⟩ := hcut
       clear D4 HC hzh1 hzh2 HB HBX c0 c1 c2 cf HR
       have HO := Lib.hid (HV.out l e (restV e m5 l.data.toList) HT.out rfl)
       have hcu : cutHy l.data.toList = (U.data.toList, V.data.toList) := HU.out
       have RU := fun w => rightUp_any U (by omega) w
       have RV := fun w => rightRev_any V (by omega) w
       have HRS : Hid (parseV s.data.toList = parsedV (if (headDg U.data.toList && onlyB m5 U.data.toList) = true ∧ (decide (0 < V.size) && onlyB [46, 43, 126] V.data.toList) = true then some (e, U.data.toList, V.data.toList) else none)) := Lib.hid (by
         rw [HO.out]
         unfold restV
         rw [hcu]
         congr 1
         have hv : V.data.toList ≠ [] ↔ 0 < V.size := by rw [sizeOf, List.length_pos_iff]
         simp only [Bool.and_eq_true, decide_eq_true_eq, hv]
         congr 1
         exact propext ⟨fun ⟨a, b, c, d⟩ => ⟨⟨a, b⟩, c, d⟩, fun ⟨⟨a, b⟩, c, d⟩ => ⟨a, b, c, d⟩⟩)
       generalize (headDg U.data.toList && onlyB m5 U.data.toList) = b1 at *
       generalize (decide (0 < V.size) && onlyB [46, 43, 126] V.data.toList) = b2 at *
       clear HU hcu HO HV HT
       cases b1
       · have HF : Hid (Value.tuple #[.agg #[.int .i64 0, .string ⟨#[]⟩, .string ⟨#[]⟩], .int .i64 2] = parseV s.data.toList) := Lib.hid (by rw [HRS.out, if_neg (by simp)]; rfl)
         clear RV HRS
         go_wp2_with (first | (go_at_call 144; refine (RU _).mono ?_; rintro e1 w1 ⟨rfl, rfl⟩))
         obtain ⟨k0, k1, k2, _⟩ := BoxV.put ⟨r0, r1, r2, rf⟩ 0 ⟨#[]⟩ ⟨#[]⟩
         exact bodyPost_ret (v := .tuple #[.agg #[.int .i64 0, .string ⟨#[]⟩, .string ⟨#[]⟩], .int .i64 2]) (by simp [results, Tryz.results95, go_sem, k0, k1, k2]) rfl ⟨congrArg Ending.returned HF.out, putV_below HB2.out (Nat.le_refl _) _ _ _⟩
       · cases b2
         · have HF : Hid (Value.tuple #[.agg #[.int .i64 0, .string ⟨#[]⟩, .string ⟨#[]⟩], .int .i64 2] = parseV s.data.toList) := Lib.hid (by rw [HRS.out, if_neg (by simp)]; rfl)
           clear HRS
           go_wp2_with (first | (go_at_call 144; refine (RU _).mono ?_; rintro e1 w1 ⟨rfl, rfl⟩) | (go_at_call 145; refine (RV _).mono ?_; rintro e1 w1 ⟨rfl, rfl⟩))
           obtain ⟨k0, k1, k2, _⟩ := BoxV.put ⟨r0, r1, r2, rf⟩ 0 ⟨#[]⟩ ⟨#[]⟩
           exact bodyPost_ret (v := .tuple #[.agg #[.int .i64 0, .string ⟨#[]⟩, .string ⟨#[]⟩], .int .i64 2]) (by simp [results, Tryz.results95, go_sem, k0, k1, k2]) rfl ⟨congrArg Ending.returned HF.out, putV_below HB2.out (Nat.le_refl _) _ _ _⟩
         · have HF : Hid (Value.tuple #[.agg #[.int .i64 e, .string U, .string V], .int .i64 0] = parseV s.data.toList) := Lib.hid (by
             rw [HRS.out, if_pos ⟨rfl, rfl⟩]
             show _ = Value.tuple #[verV (e, U.data.toList, V.data.toList), .int .i64 0]
             unfold verV
             rw [← strOf (x := U) rfl, ← strOf (x := V) rfl])
           clear HRS
           go_wp2_with (first | (go_at_call 144; refine (RU _).mono ?_; rintro e1 w1 ⟨rfl, rfl⟩) | (go_at_call 145; refine (RV _).mono ?_; rintro e1 w1 ⟨rfl, rfl⟩))
           obtain ⟨k0, k1, k2, _⟩ := BoxV.put ⟨r0, r1, r2, rf⟩ e U V
           exact bodyPost_ret (v := .tuple #[.agg #[.int .i64 e, .string U, .string V], .int .i64 0]) (by simp [results, Tryz.results95, go_sem, k0, k1, k2]) rfl ⟨congrArg Ending.returned HF.out, putV_below HB2.out (Nat.le_refl _) _ _ _⟩
end Go.Proofs.YtnnagboeimeiiaaGreatDoor
namespace Go.Proofs.YtnnagboeimeiiaaGreatDoor
open Go.RowKit Go.Shelf
attribute [local go_sem] Oper.semAt_some
abbrev LineX := { x : Nat × ByteArray // x.1 ≤ 100000 ∧ x.2.size ≤ 100000 }
def lnOf (x : LineX) : Bs := x.1.2.data.toList
def encLn (x : LineX) : Array Value := #[.int .i64 x.1.1, .string x.1.2]
def AllLn (s : Bs) (ys : List LineX) : Prop := ys.map lnOf = spl 10 s ∧ ∀ (j : Nat) x, ys[j]? = some x → x.1.1 = j
def SomeLn (s : Bs) (ys : List LineX) : Prop := ys.map lnOf <+: spl 10 s ∧ ∀ (j : Nat) x, ys[j]? = some x → x.1.1 = j
theorem number_snoc {pre : List LineX} {x : LineX} (h : ∀ (j : Nat) y, pre[j]? = some y → y.1.1 = j) (hx : x.1.1 = pre.length) : ∀ (j : Nat) y, (pre ++ [x])[j]? = some y → y.1.1 = j := by
 intro j y hj
 by_cases hl : j < pre.length
 · rw [List.getElem?_append_left hl] at hj; exact h j y hj
 · rw [List.getElem?_append_right (by omega)] at hj
   have : j - pre.length = 0 := by
     have := (List.getElem?_eq_some_iff.1 hj).1
     simp at this; omega
   rw [this] at hj
   cases hj
   rw [hx]; omega
def AtLn (s : Bs) (pre : List LineX) (R : ByteArray) (more : Bool) : Prop :=
 (∀ (j : Nat) y, pre[j]? = some y → y.1.1 = j) ∧ (more = true → spl 10 s = pre.map lnOf ++ spl 10 R.data.toList) ∧ (more = false → spl 10 s = pre.map lnOf)
theorem AtLn.start (s : ByteArray) : AtLn s.data.toList [] s true := ⟨fun j y h => by simp at h, fun _ => rfl, fun h => by cases h⟩
theorem AtLn.last {s : Bs} {pre : List LineX} {R : ByteArray} (h : AtLn s pre R true) (hf : firstI 10 R.data.toList = -1) (x : LineX) (hx : x.1.1 = pre.length) (hr : x.1.2 = R) (R' : ByteArray) : AtLn s (pre ++ [x]) R' false := by
 refine ⟨number_snoc h.1 hx, (fun g => by cases g), fun _ => ?_⟩
 rw [h.2.1 rfl, spl_no 10 _ (firstI_neg.1 (by omega)), List.map_append]
 simp [lnOf, hr]
theorem first_not {l : Bs} {c : UInt8} {k : Nat} (h : firstI c l = k) (hk : k < l.length) : c ∉ l.take k ∧ l = l.take k ++ c :: l.drop (k + 1) := by
 have hm : c ∈ l := Decidable.of_not_not fun g => by rw [firstI_no g] at h; omega
 unfold firstI at h
 rw [if_pos hm] at h
 have hk' : (l.takeWhile fun x => decide (x ≠ c)).length = k := by omega
 have e : l.take k = l.takeWhile fun x => decide (x ≠ c) := by
   rw [← hk']; exact (List.prefix_iff_eq_take.1 (List.takeWhile_prefix _)).symm
 constructor
 · rw [e]
   intro g
   have := List.all_eq_true.1 (List.all_takeWhile (p := fun x => decide (x ≠ c)) (l := l)) c g
   simp at this
 · have hc : l[k] = c := by
     have h2 : ∀ (l : Bs) (h : (l.takeWhile fun x => decide (x ≠ c)).length < l.length), l[(l.takeWhile fun x => decide (x ≠ c)).length] = c := by
       intro l
       induction l with
       | nil => intro h; simp at h
       | cons y l ih =>
         intro h
         by_cases hy : y = c
         · subst hy; simp
         · simp only [List.takeWhile_cons, hy, ne_eq, not_false_eq_true, decide_true, if_true, List.length_cons, List.getElem_cons_succ] at h ⊢
           exact ih (Nat.lt_of_succ_lt_succ h)
     have := h2 l (by rw [hk']; exact hk)
     simp only [hk'] at this
     exact this
   rw [← hc, ← List.drop_eq_getElem_cons hk, List.take_append_drop]
theorem AtLn.next {s : Bs} {pre : List LineX} {R : ByteArray} (h : AtLn s pre R true) {k : Nat} (hf : firstI 10 R.data.toList = k) (hk : k < R.size) (x : LineX) (hx : x.1.1 = pre.length) (hr : x.1.2 = R.extract 0 k) : AtLn s (pre ++ [x]) (R.extract (k + 1) R.size) true := by
 obtain ⟨h1, h2⟩ := first_not hf (by rw [← sizeOf]; exact hk)
 refine ⟨number_snoc h.1 hx, fun _ => ?_, fun g => by cases g⟩
 have e1 : (R.extract 0 k).data.toList = R.data.toList.take k := by rw [extL]; simp
 have e2 : (R.extract (k + 1) R.size).data.toList = R.data.toList.drop (k + 1) := by rw [extL, List.take_of_length_le (by rw [List.length_drop, ← sizeOf]; omega)]
 have e3 : spl 10 R.data.toList = R.data.toList.take k :: spl 10 (R.data.toList.drop (k + 1)) := by
   conv => lhs; rw [h2]
   exact spl_at 10 _ _ h1
 rw [h.2.1 rfl, e3, List.map_append, e2]
 simp [lnOf, hr]
theorem AtLn.len {s : ByteArray} {pre : List LineX} {R : ByteArray} (h : AtLn s.data.toList pre R true) : pre.length < s.size + 1 := by
 have h1 := spl_len 10 s.data.toList
 rw [h.2.1 rfl, List.length_append, List.length_map] at h1
 have h2 := List.length_pos_iff.2 (spl_ne 10 R.data.toList)
 rw [sizeOf]; omega
theorem AtLn.all {s : Bs} {pre : List LineX} {R : ByteArray} (h : AtLn s pre R false) : AllLn s pre := ⟨(h.2.2 rfl).symm, h.1⟩
theorem AtLn.some {s : Bs} {pre : List LineX} {R : ByteArray} {m : Bool} (h : AtLn s pre R m) : SomeLn s pre := by
 refine ⟨?_, h.1⟩
 cases m
 · rw [h.2.2 rfl]; exact List.prefix_rfl
 · rw [h.2.1 rfl]; exact List.prefix_append _ _
theorem drew_grown (W : World) (q : Nat) : W.grownBy (W.drewN q) none := ⟨rfl, rfl, rfl, Nat.le_refl _, fun _ _ _ => rfl⟩
set_option maxRecDepth 100000 in
set_option maxHeartbeats 4000000 in
theorem lines1_in (n : Nat) (hn : 1 ≤ n) (s : ByteArray) (hs : s.size ≤ 90000) (l Bn : Nat) (Kp : World → World → Prop) (J Jx : List LineX → World → Prop) (B : Nat) (hJ : AbidesFrom B J)
   (hY : ∀ pre x W, J pre W → pre.length < s.size + 1 → YieldAt Fence.wide (n - 1) Tryz.prog l (encLn x) W fun e W' =>
     (e = .returned (.bool true) ∧ J (pre ++ [x]) W' ∧ Kp W W') ∨ (e = .returned (.bool false) ∧ Jx (pre ++ [x]) W'))
   (W : World) (hBn : W.cell? ⟨Bn, 0, none⟩ = some (.string s)) (h0 : J [] W) :
   CallsIn Fence.wide n Tryz.prog 163 #[.func (.yield l) #[] #[], .pointer (some ⟨Bn, 0, none⟩)] W fun e W' => (∃ v, e = .returned v) ∧
     ((∃ ys, AllLn s.data.toList ys ∧ J ys W') ∨ (∃ pre, SomeLn s.data.toList pre ∧ Jx pre W')) := by
 refine callsIn_of_wp Tryz.func163 rfl trivial ?_ rfl
 simp only [Tryz.ntmps163, List.size_toArray, List.length_cons, List.length_nil, Nat.reduceAdd, Nat.reduceSub, Array.replicate_succ, Array.replicate_zero, List.push_toArray, List.append_toArray, List.nil_append, List.cons_append]
 gi_wp2
 gi_loopw [3, 4, 5] (fun r m i wr => ∃ (pre : List LineX) (R : ByteArray) (more : Bool), r = .string R ∧ m = .bool more ∧ i = .int .i64 (pre.length : Nat) ∧ R.size ≤ s.size ∧ pre.length ≤ s.size + 1 ∧ Hid (AtLn s.data.toList pre R more) ∧ Hid (J pre wr)) (fun r m _ _ => match r, m with | .string R, .bool true => R.size + 1 | _, _ => 0)
 case atStart => exact ⟨[], s, true, rfl, rfl, rfl, Nat.le_refl _, by simp, Lib.hid (AtLn.start s), Lib.hid h0⟩
 case round =>
   obtain ⟨pre, R, more, rfl, rfl, rfl, hR, hp, H, HJ⟩ := hrel
   cases more with
   | false =>
     gi_wp2
     go_end0
     exact ⟨⟨_, rfl⟩, .inl ⟨pre, H.out.all, HJ.out⟩⟩
   | true =>
     have hlen := H.out.len
     have hR1 : R.size ≤ 100000 := by omega
     have hp1 : pre.length ≤ 100000 := by omega
     rcases first_cases R 10 with hf | ⟨k, hf, hk⟩
     · have C : ∀ w, Calls Tryz.prog 140 #[.string R, .string ⟨#[10]⟩] w fun e w' => e = .returned (.tuple #[.string R, .string ⟨#[]⟩, .bool false]) ∧ ∃ q, w' = w.drewN q := fun w => (cut1_any R (by omega) 10 w).mono fun e w' hp => by
         obtain ⟨hq, ⟨_, he⟩ | ⟨j, hj, _⟩⟩ := hp
         · exact ⟨he, hq⟩
         · omega
       have HN : Hid (AtLn s.data.toList (pre ++ [⟨(pre.length, R), hp1, hR1⟩]) ⟨#[]⟩ false) := Lib.hid (H.out.last hf _ rfl rfl _)
       clear hf H
       gi_wp2_with (refine ⟨trivial, ?_⟩; gi_at_call 140; refine (callsIn_wide.2 (C _)).mono ?_; rintro e w1 ⟨rfl, q, rfl⟩; obtain ⟨fn, tmps, assign, body, hy, hRd⟩ := hY pre ⟨(pre.length, R), hp1, hR1⟩ (wr.drewN q) (hJ _ _ _ none HJ.out (drew_grown _ _) (fun r e => by cases e)) hlen; dsimp only [encLn] at hy)
       refine hRd.mono ?_
       rintro e W3 (⟨rfl, hJ3, _⟩ | ⟨rfl, hJx3⟩)
       · gi_wp2
         go_roundw
         case rel => exact ⟨pre ++ [⟨(pre.length, R), hp1, hR1⟩], ⟨#[]⟩, false, rfl, rfl, by simp, Nat.zero_le _, by simp; omega, HN, Lib.hid hJ3⟩
         case measure => simp
       · gi_wp2
         refine bodyPost_ret (results_none rfl _ _ _) rfl ?_
         exact ⟨⟨_, rfl⟩, .inr ⟨pre ++ [⟨(pre.length, R), hp1, hR1⟩], HN.out.some, hJx3⟩⟩
     · have C : ∀ w, Calls Tryz.prog 140 #[.string R, .string ⟨#[10]⟩] w fun e w' => e = .returned (.tuple #[.string (R.extract 0 k), .string (R.extract (k + 1) R.size), .bool true]) ∧ ∃ q, w' = w.drewN q := fun w => (cut1_any R (by omega) 10 w).mono fun e w' hp => by
         obtain ⟨hq, ⟨h', _⟩ | ⟨j, hj, _, he⟩⟩ := hp
         · omega
         · obtain rfl : j = k := by omega
           exact ⟨he, hq⟩
       have hx1 : (R.extract 0 k).size ≤ 100000 := by rw [ByteArray.size_extract]; omega
       have HN : Hid (AtLn s.data.toList (pre ++ [⟨(pre.length, R.extract 0 k), hp1, hx1⟩]) (R.extract (k + 1) R.size) true) := Lib.hid (H.out.next hf hk _ rfl rfl)
       clear hf H
       gi_wp2_with (refine ⟨trivial, ?_⟩; gi_at_call 140; refine (callsIn_wide.2 (C _)).mono ?_; rintro e w1 ⟨rfl, q, rfl⟩; obtain ⟨fn, tmps, assign, body, hy, hRd⟩ := hY pre ⟨(pre.length, R.extract 0 k), hp1, hx1⟩ (wr.drewN q) (hJ _ _ _ none HJ.out (drew_grown _ _) (fun r e => by cases e)) hlen; dsimp only [encLn] at hy)
       refine hRd.mono ?_
       rintro e W3 (⟨rfl, hJ3, _⟩ | ⟨rfl, hJx3⟩)
       · gi_wp2
         go_roundw
         case rel => exact ⟨pre ++ [⟨(pre.length, R.extract 0 k), hp1, hx1⟩], R.extract (k + 1) R.size, true, rfl, rfl, by simp, by rw [ByteArray.size_extract]; omega, by simp; omega, HN, Lib.hid hJ3⟩
         case measure => simp only [ByteArray.size_extract]; omega
       · gi_wp2
         refine bodyPost_ret (results_none rfl _ _ _) rfl ?_
         exact ⟨⟨_, rfl⟩, .inr ⟨pre ++ [⟨(pre.length, R.extract 0 k), hp1, hx1⟩], HN.out.some, hJx3⟩⟩
theorem lines_in (n : Nat) (s : ByteArray) (w : World) : CallsIn Fence.wide n Tryz.prog 127 #[.string s] w fun e w' => e = .returned (.func (.func 163) #[] #[.pointer (some ⟨w.heap.size, 0, none⟩)]) ∧ w' = w.alloc (.cells #[.string s] 9) := by
 refine callsIn_of_wp Tryz.func127 rfl trivial ?_ rfl
 simp only [Tryz.ntmps127, List.size_toArray, List.length_cons, List.length_nil, Nat.reduceAdd, Nat.reduceSub, Array.replicate_succ, Array.replicate_zero, List.push_toArray, List.append_toArray, List.nil_append, List.cons_append]
 gi_wp2
 go_ret
 exact ⟨rfl, rfl⟩
theorem lines_stops (n : Nat) (hn : 1 ≤ n) (Kp : World → World → Prop) (s : ByteArray) (hs : s.size ≤ 90000) (Bn : Nat) (w : World) (hBn : Bn < w.heap.size) (hc : w.cell? ⟨Bn, 0, none⟩ = some (.string s)) :
   SeqStopsK Fence.wide n Tryz.prog 163 #[.pointer (some ⟨Bn, 0, none⟩)] encLn Kp (AllLn s.data.toList) (SomeLn s.data.toList) (s.size + 1) w := fun l J Jx W hW hJ _ hY h0 =>
 lines1_in n hn s hs l Bn Kp J Jx _ hJ hY W ((hW.cell (p := ⟨Bn, 0, none⟩) hBn).trans hc) h0
end Go.Proofs.YtnnagboeimeiiaaGreatDoor
namespace Go.Proofs.YtnnagboeimeiiaaGreatDoor
open Go.RowKit Go.Shelf
attribute [local go_sem] Oper.semAt_some
theorem joinC_snoc (c : UInt8) (p : Bs) : ∀ (l : List Bs), l ≠ [] → joinC c (l ++ [p]) = joinC c l ++ c :: p
 | [], h => absurd rfl h
 | [q], _ => by simp [joinC]
 | q :: r :: l, _ => by
   have := joinC_snoc c p (r :: l) (by simp)
   rw [List.cons_append, joinC_cons _ _ (by simp), this, joinC_cons c q (l := r :: l) (by simp)]; simp
theorem spl_snoc (c : UInt8) (t : Bs) : spl c (t ++ [c]) = spl c t ++ [[]] := by
 have hne := spl_ne c t
 have e : joinC c (spl c t ++ [[]]) = t ++ [c] := by rw [joinC_snoc c [] _ hne, joinC_spl]
 rw [← e]
 exact spl_joinC c _ (by simp) (fun p hp => by
   rcases List.mem_append.1 hp with h | h
   · exact (spl_clean c t p h).1
   · simp at h; subst h; simp)
theorem lines_yes (t : Bs) : linesO (t ++ [10]) = some (spl 10 t) := by unfold linesO; rw [spl_snoc]; simp
theorem lines_nil : linesO [] = some [] := rfl
theorem lines_no {s : Bs} (h0 : s ≠ []) (h : s.getLast? ≠ some 10) : linesO s = none := by
 unfold linesO
 rw [if_neg]
 intro g
 obtain ⟨init, hi⟩ := List.getLast?_eq_some_iff.1 g
 have hj := joinC_spl 10 s
 rw [hi] at hj
 by_cases hn : init = []
 · subst hn; exact h0 (by rw [← hj]; rfl)
 · rw [joinC_snoc 10 [] init hn] at hj
   exact h (by rw [← hj]; simp)
def PLinesPost (s : Bs) (w : World) (e : Ending) (w' : World) : Prop := ∃ v z, e = .returned (.tuple #[v, .int .i64 z]) ∧ (∀ ls, linesO s = some ls → z = 0 ∧ OwnT w' w.heap.size v ls) ∧ (linesO s = none → z = 2 ∧ v = .slice none 0 0) ∧ Below w.heap.size w w'
def txtOf (x : LineX) : Value := .string x.1.2
theorem txts_of (ys : List LineX) : ys.map txtOf = txts (ys.map lnOf) := by
 unfold txts
 rw [List.map_map]
 refine congrArg (fun g => List.map g ys) (funext fun x => ?_)
 show Value.string x.1.2 = Value.string ⟨(x.1.2.data.toList).toArray⟩
 rw [← strOf (x := x.1.2) rfl]
set_option maxRecDepth 100000 in
set_option maxHeartbeats 8000000 in
theorem slines_any (s : ByteArray) (hs : s.size ≤ 90000) (w : World) : Calls Tryz.prog 79 #[.string s] w (PLinesPost s.data.toList w) := by
 by_cases h0 : s.size = 0
 · have e1 : s.toList.isEmpty = true := by rw [emptyT, decide_eq_true h0]
   have hl : s.data.toList = [] := List.eq_nil_of_length_eq_zero (by rw [← sizeOf]; exact h0)
   have HP : Hid (PLinesPost s.data.toList w (.returned (.tuple #[.slice none 0 0, .int .i64 0])) w) := Lib.hid ⟨_, _, rfl, (fun ls h => by
     rw [hl, lines_nil] at h; cases h; exact ⟨rfl, OwnT.nil _ _⟩), (fun h => by rw [hl, lines_nil] at h; cases h), Below.refl _ _⟩
   clear hl h0
   go_enter Tryz.func79, Tryz.ntmps79
   go_wp2
   go_ret2
   exact HP.out
 · have e1 : s.toList.isEmpty = false := by rw [emptyT, decide_eq_false h0]
   have hne : s.data.toList ≠ [] := fun g => h0 (by rw [sizeOf, g]; rfl)
   by_cases hlast : s.data.toList.getLast? = some 10
   · obtain ⟨t, ht⟩ := List.getLast?_eq_some_iff.1 hlast
     obtain ⟨T, hT⟩ : ∃ T : ByteArray, T.data.toList = t := ⟨⟨t.toArray⟩, by simp⟩
     have hTs : T.size ≤ 90000 := by
       have h1 := sizeOf s
       have h2 := sizeOf T
       rw [ht, List.length_append] at h1
       rw [hT] at h2
       simp at h1; omega
     have hsuf : Lib.hasSuffix s.data.toList [10] = true := by rw [ht]; unfold Lib.hasSuffix; exact List.isSuffixOf_iff_suffix.2 ⟨t, rfl⟩
     have C : ∀ w, Calls Tryz.prog 130 #[.string s, .string ⟨#[10]⟩] w fun e w' => e = .returned (.tuple #[.string T, .bool true]) ∧ w = w' := fun w => (Tryz.strings_CutSuffix s ⟨#[10]⟩ w (by omega)).mono fun e w' hp => ⟨by
       rw [hp.1]
       have e2 : Lib.trimSuffix s.data.toList (ByteArray.mk #[10]).data.toList = T.data.toList := by
         show Lib.trimSuffix s.data.toList [10] = _
         unfold Lib.trimSuffix
         rw [hsuf, if_pos rfl, hT, ht]; simp
       have e3 : Lib.hasSuffix s.data.toList (ByteArray.mk #[10]).data.toList = true := hsuf
       rw [e2, e3, ← strOf (x := T) rfl], hp.2.symm⟩
     have HP : Hid (∀ v w' (ys : List LineX), AllLn T.data.toList ys → w'.ownsRow w.heap.size 9 1 v ys.length (ys.map txtOf) → Below w.heap.size w w' → PLinesPost s.data.toList w (.returned (.tuple #[v, .int .i64 0])) w') := Lib.hid (fun v w' ys hy hr hb => ⟨v, 0, rfl, (fun ls h => by
       rw [ht, lines_yes, ← hT, ← hy.1] at h
       cases h
       refine ⟨rfl, ?_⟩
       unfold OwnT
       rw [List.length_map, ← txts_of]; exact hr), (fun h => by rw [ht, lines_yes] at h; cases h), hb⟩)
     clear ht hT hsuf hlast hne h0
     obtain ⟨i0, hi, hz0, hz1, hz2⟩ := info_parts infoT
     refine (callsIn_wide (n := 5)).1 ?_
     refine callsIn_of_wp_marks Tryz.func79 rfl trivial ?_ rfl
     simp only [Tryz.ntmps79, List.size_toArray, List.length_cons, List.length_nil, Nat.reduceAdd, Nat.reduceSub, Array.replicate_succ, Array.replicate_zero, List.push_toArray, List.append_toArray, List.nil_append, List.cons_append]
     gi_wp2_with (first | (refine ⟨trivial, ?_⟩; gi_at_call 130; refine (callsIn_wide.2 (C _)).mono ?_; rintro e w1 ⟨rfl, rfl⟩) | (refine ⟨trivial, ?_⟩; gi_at_call 127; refine (lines_in _ _ _).mono ?_; rintro e w' ⟨rfl, rfl⟩))
     have bO := Boxed.new w 40 (.slice none 0 0)
     have bN : ((w.alloc (.cells #[.slice none 0 0] 40)).alloc (.cells #[.string T] 9)).cell? ⟨w.heap.size + 1, 0, none⟩ = some (.string T) := by simp
     have hB0 : Below w.heap.size w ((w.alloc (.cells #[.slice none 0 0] 40)).alloc (.cells #[.string T] 9)) := ((Below.refl _ w).alloc (Nat.le_refl _) _).alloc (by simp) _
     refine wpIn_rangeFunc_ownG rfl (by omega) (gf := 163) (lb := #[.pointer (some ⟨w.heap.size + 1, 0, none⟩)]) rfl trivial (enters_of Tryz.func163 (by kernel_rfl) rfl)
       (lines_stops _ (by omega) (fun _ _ => True) T hTs (w.heap.size + 1) _ (by simp) bN) (fun _ _ => trivial) (fun _ _ _ _ _ _ _ _ => trivial) (Below.refl _ _) (fun _ => rfl)
       (fun pre W => (∃ v, Boxed W w.heap.size 40 v ∧ W.ownsRow w.heap.size 9 1 v pre.length (pre.map txtOf) ∧ True) ∧ Below w.heap.size w W)
       (fun _ _ _ => False)
       (OwnFrom.and (Own.from (holdsRow_own w.heap.size w.heap.size 40 9 1 (fun pre : List LineX => pre.length) (fun pre => pre.map txtOf) (fun _ _ => True)) _) (ownFrom_below (Nat.le_refl _) (by simp; omega)))
       (fun _ _ _ _ _ hs _ _ => hs)
       ⟨⟨_, bO.alloc _, World.ownsRow_nil _ _ _ _, trivial⟩, hB0⟩
       (fun x => { tmps := #[.string s, undef, .slice none 0 0, .int .i64 0, .string T, .bool true, .pointer (some ⟨w.heap.size, 0, none⟩), undef, .string x.1.2, .string s, .bool false, .tuple #[.string T, .bool true], .string s, .tuple #[.string T, .bool true], .string T, .bool true, .bool true, .bool false, .string T, .func (.func 163) #[] #[.pointer (some ⟨w.heap.size + 1, 0, none⟩)], .int .i64 x.1.1, .string x.1.2, undef, undef, undef, undef, undef], defers := [] }) ?assign ?body ?done ?stop
     case assign =>
       intro l x W K hK
       dsimp only [encLn]
       gi_wp2
       exact hK
     case body =>
       rintro l pre x W ⟨⟨v, hv, hrow, _⟩, hB⟩ hlt
       have hc := hv.cell
       gi_wp2_with (gi_at_builtin; refine wpListIn_append_own _ rfl _ _ 40 rfl w.heap.size 9 i0 (.string ⟨#[]⟩) 1 16 Tryz.underlying40 hi hz0 hz1 hz2 rfl (by decide) _ _ _ rfl (hrow.alloc _) ⟨W.heap.size, 0, none⟩ 1 1 [.string x.1.2] rfl rfl (cell_one_new _ _ _) (by simp [Value.oneCell']) (by unfold maxLen; omega) (by omega) (by have := hB.size; simp; omega) ?_; intro v' w1 hown' hgrow _; obtain ⟨g', cap', rfl⟩ := ownsRow_succ hown'; obtain ⟨hv1, hv2, hr2, hk2, hb2⟩ := hv.appended (by decide) hrow hB.size (Nat.le_refl _) hown' hgrow; have hc1 := hv1.cell; have hf1 := hv1.frozen)
       exact ⟨hk2.from _, trivial, ⟨_, hv2, by simpa [txtOf] using hr2, trivial⟩, hB.trans hb2⟩
     case done =>
       rintro D ys W hD hall ⟨⟨v, hv, hrow, _⟩, hB⟩ hK
       have HF := Lib.hid (fun w9 => HP.out v w9 ys hall)
       have hc := hv.cell
       clear hall HP
       gi_wp2
       refine ⟨by simp, .inl ⟨_, _, rfl, run_takeDeferred hK, ?_⟩⟩
       refine ⟨.tuple #[v, .int .i64 0], by simp [results, Tryz.f79, go_sem], HF.out _ (ownsRow_putObj hrow _ hK rfl) (hB.trans (belowK_b (w := w) (Nat.le_refl _) W D _ _ (by simp at hD; omega) hK rfl rfl))⟩
     case stop =>
       rintro D c pre W _ _ h _
       exact h.elim
   · have hsuf : Lib.hasSuffix s.data.toList [10] = false := by
       cases hq : Lib.hasSuffix s.data.toList [10]
       · rfl
       · unfold Lib.hasSuffix at hq
         obtain ⟨t, ht⟩ := List.isSuffixOf_iff_suffix.1 hq
         exact absurd (by rw [← ht]; simp) hlast
     have C : ∀ w, Calls Tryz.prog 130 #[.string s, .string ⟨#[10]⟩] w fun e w' => ∃ T : ByteArray, e = .returned (.tuple #[.string T, .bool false]) ∧ w = w' := fun w => (Tryz.strings_CutSuffix s ⟨#[10]⟩ w (by omega)).mono fun e w' hp => by
       have e3 : Lib.hasSuffix s.data.toList (ByteArray.mk #[10]).data.toList = false := hsuf
       rw [e3] at hp
       exact ⟨_, hp.1, hp.2.symm⟩
     have HP : Hid (PLinesPost s.data.toList w (.returned (.tuple #[.slice none 0 0, .int .i64 2])) w) := Lib.hid ⟨_, _, rfl, (fun ls h => by
       rw [lines_no hne hlast] at h; cases h), (fun _ => ⟨rfl, rfl⟩), Below.refl _ _⟩
     clear hsuf hlast hne h0
     go_enter Tryz.func79, Tryz.ntmps79
     go_wp2_with (go_at_call 130; refine (C _).mono ?_; rintro e w1 ⟨T, rfl, rfl⟩)
     go_ret2
     exact HP.out
end Go.Proofs.YtnnagboeimeiiaaGreatDoor
