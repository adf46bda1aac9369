import Derived.Test.YtnnagboeimeiiaaGreatDoorWVMath
import Derived.Test.YtnnagboeimeiiaaGreatDoorWVOrder
import Derived.Test.YtnnagboeimeiiaaGreatDoorWShelf
import Derived.WalkSmall
import Derived.Shelf.Strconv.ToError
import Derived.Shelf.Strconv.ToErrorRange
import Derived.Shelf.Strconv.ParseUintEmpty
import Derived.Lib.AtoiTie
import Derived.Lib.ParseIntBCases
import Derived.Lib.ItoaMem
namespace Go.Proofs.YtnnagboeimeiiaaGreatDoor
-- Marks
theorem only_same {m m' s : Bs} (h : ∀ c ∈ s, m.contains c = m'.contains c) : onlyB m s = onlyB m' s := by
 unfold onlyB
 rw [Bool.eq_iff_iff, List.all_eq_true, List.all_eq_true]
 exact ⟨fun g c hc => by rw [← h c hc]; exact g c hc, fun g c hc => by rw [h c hc]; exact g c hc⟩
theorem cut_sub (s : Bs) : ∀ c ∈ (cutHy s).1, c ∈ s := by
 unfold cutHy
 split
 · exact fun c h => h
 · exact fun c h => List.mem_of_mem_take h
theorem restV_plain {e : Int} {s : Bs} (h : (58 : UInt8) ∉ s) : restV e [46, 43, 45, 126] s = restV e [46, 43, 45, 126, 58] s := by
 unfold restV
 rw [only_same (m := [46, 43, 45, 126]) (m' := [46, 43, 45, 126, 58]) (s := (cutHy s).1)]
 intro c hc
 have hn : c ≠ 58 := fun e => h (e ▸ cut_sub s c hc)
 simp [hn]
end Go.Proofs.YtnnagboeimeiiaaGreatDoor
namespace Go.Proofs.YtnnagboeimeiiaaGreatDoor
open Go.RowKit
theorem digit_any (c : UInt8) (w : World) : Calls Tryz.prog 178 #[.int .u8 c.toNat] w fun e w' => e = .returned (.bool (dgB c)) ∧ w = w' := by
 have hc := c.toNat_lt
 obtain ⟨B, HB⟩ : ∃ B, Hid (dgB c = B) := ⟨_, rfl⟩
 rw [HB.out]
 unfold dgB at HB
 generalize c.toNat = n at *
 by_cases h1 : 48 ≤ n
 · go_enter Tryz.func178, Tryz.ntmps178
   go_wp2
   go_ret
   exact ⟨retb (by rw [← HB.out, Bool.eq_iff_iff]; simp only [Bool.and_eq_true, decide_eq_true_eq]; omega), rfl⟩
 · go_enter Tryz.func178, Tryz.ntmps178
   go_wp2
   go_ret
   exact ⟨retb (by rw [← HB.out, decide_eq_false h1]; rfl), rfl⟩
theorem letter_any (c : UInt8) (w : World) : Calls Tryz.prog 206 #[.int .u8 c.toNat] w fun e w' => e = .returned (.bool (ltB c)) ∧ w = w' := by
 have hc := c.toNat_lt
 obtain ⟨B, HB⟩ : ∃ B, Hid (ltB c = B) := ⟨_, rfl⟩
 rw [HB.out]
 unfold ltB at HB
 generalize c.toNat = n at *
 by_cases h1 : 97 ≤ n
 · by_cases h2 : n ≤ 122
   · go_enter Tryz.func206, Tryz.ntmps206
     go_wp2
     go_ret
     exact ⟨retb (by rw [← HB.out, Bool.eq_iff_iff]; simp only [Bool.or_eq_true, Bool.and_eq_true, decide_eq_true_eq, true_iff]; omega), rfl⟩
   · go_enter Tryz.func206, Tryz.ntmps206
     go_wp2
     go_ret
     exact ⟨retb (by rw [← HB.out, Bool.eq_iff_iff]; simp only [Bool.or_eq_true, Bool.and_eq_true, decide_eq_true_eq]; omega), rfl⟩
 · by_cases h3 : 65 ≤ n
   · go_enter Tryz.func206, Tryz.ntmps206
     go_wp2
     go_ret
     exact ⟨retb (by rw [← HB.out, Bool.eq_iff_iff]; simp only [Bool.or_eq_true, Bool.and_eq_true, decide_eq_true_eq]; omega), rfl⟩
   · go_enter Tryz.func206, Tryz.ntmps206
     go_wp2
     go_ret
     exact ⟨retb (by rw [← HB.out, Bool.eq_iff_iff]; simp only [Bool.or_eq_true, Bool.and_eq_true, decide_eq_true_eq, Bool.false_eq_true, false_iff]; omega), rfl⟩
theorem cons_of {s : ByteArray} (h : 0 < s.size) : s.data.toList = s[0] :: s.data.toList.drop 1 := by
 have := dropC s 0 h
 rwa [List.drop_zero] at this
theorem nil_of {s : ByteArray} (h : s.size = 0) : s.data.toList = [] := List.eq_nil_of_length_eq_zero (by rw [← sizeOf]; exact h)
theorem head_cons {s : ByteArray} (h : 0 < s.size) : headDg s.data.toList = dgB s[0] := by rw [cons_of h]; rfl
theorem headDg_nil {s : ByteArray} (h : s.size = 0) : headDg s.data.toList = false := by rw [nil_of h]; rfl
theorem idx_mem (l : Bs) (c : UInt8) : Lib.indexByte l c < 0 ↔ l.contains c = false := by
 induction l with
 | nil => simp [Lib.indexByte]
 | cons b l ih =>
   have hge := Lib.indexByte_ge l c
   unfold Lib.indexByte
   by_cases h : b = c
   · subst h; simp
   · have h' : ¬ c = b := fun g => h g.symm
     rw [if_neg (by simpa using h)]
     by_cases g : Lib.indexByte l c = -1
     · rw [if_pos (by simpa using g)]
       have := ih.1 (by omega)
       simp only [List.contains_cons, this, Bool.or_false]
       simp [h']
     · rw [if_neg (by simpa using g)]
       have hn : ¬ Lib.indexByte l c < 0 := by omega
       constructor
       · intro _; omega
       · intro hf
         have : l.contains c = false := by simp only [List.contains_cons, Bool.or_eq_false_iff] at hf; exact hf.2
         exact absurd (ih.2 this) hn
set_option maxHeartbeats 1000000 in
theorem consists_any (s m : ByteArray) (hs : s.size ≤ 100000) (w : World) : Calls Tryz.prog 179 #[.string s, .string m] w fun e w' => e = .returned (.bool (onlyB m.data.toList s.data.toList)) ∧ w = w' := by
 obtain ⟨R, HR⟩ : ∃ R, Hid (onlyB m.data.toList s.data.toList = R) := ⟨_, rfl⟩
 rw [HR.out]
 have DA := fun c w => digit_any c w
 have LA := fun c w => letter_any c w
 go_enter Tryz.func179, Tryz.ntmps179
 go_wp2
 go_loop [8] (fun i => ∃ k : Nat, k ≤ s.size ∧ i = .int .i64 k ∧ Hid ((s.data.toList.take k).all (fun c => dgB c || ltB c || m.data.toList.contains c) = true)) (fun i => s.size - (intOf i).toNat)
 case atStart => exact ⟨0, by omega, rfl, Lib.hid (by simp)⟩
 case round =>
   obtain ⟨k, hk, rfl, H⟩ := hrel
   by_cases hlt : k < s.size
   · have hc := s[k].toNat_lt
     have D := DA s[k]
     have L := LA s[k]
     have C3 := fun w => Tryz.strings_IndexByte m (s[k].toNat : Int) w
     have hx : (s[k].toNat : Int).toNat.toUInt8 = s[k] := by rw [Int.toNat_natCast]; simp
     simp only [hx] at C3
     have hge := Lib.indexByte_ge m.data.toList s[k]
     have hix := idx_mem m.data.toList s[k]
     generalize Lib.indexByte m.data.toList s[k] = ix at *
     have hN : (dgB s[k] || ltB s[k] || m.data.toList.contains s[k]) = true → Hid ((s.data.toList.take (k + 1)).all (fun c => dgB c || ltB c || m.data.toList.contains c) = true) := fun g => Lib.hid (allNx hlt H.out g)
     have hS : (dgB s[k] || ltB s[k] || m.data.toList.contains s[k]) = false → Hid (false = R) := fun g => Lib.hid (by rw [← HR.out]; unfold onlyB; exact (allSt hlt g).symm)
     clear hx DA LA
     cases hl : ltB s[k]
     · rw [hl] at L hN hS
       cases hd : dgB s[k]
       · rw [hd] at D hN hS
         cases hm : m.data.toList.contains s[k]
         · rw [hm] at hN hS
           have hneg : ix < 0 := hix.2 hm
           have HS := hS rfl
           clear hix hl hd hm hN hS
           go_wp2_with (first | (go_at_call 206; refine (L _).mono ?_; rintro e w1 ⟨rfl, rfl⟩) | (go_at_call 178; refine (D _).mono ?_; rintro e w1 ⟨rfl, rfl⟩) | (go_at_call 94; refine (C3 _).mono ?_; rintro e w1 ⟨rfl, rfl⟩))
           go_ret
           exact ⟨retb HS.out, rfl⟩
         · rw [hm] at hN hS
           have hneg : ¬ ix < 0 := fun h => by rw [hix.1 h] at hm; cases hm
           have HN := hN rfl
           clear hix hl hd hm hN hS
           go_wp2_with (first | (go_at_call 206; refine (L _).mono ?_; rintro e w1 ⟨rfl, rfl⟩) | (go_at_call 178; refine (D _).mono ?_; rintro e w1 ⟨rfl, rfl⟩) | (go_at_call 94; refine (C3 _).mono ?_; rintro e w1 ⟨rfl, rfl⟩))
           go_round
           case rel => exact ⟨k + 1, by omega, by go_num, HN⟩
           case measure => simp [intOf]; omega
       · rw [hd] at D hN hS
         have HN := hN rfl
         clear hix hl hd hN hS C3
         go_wp2_with (first | (go_at_call 206; refine (L _).mono ?_; rintro e w1 ⟨rfl, rfl⟩) | (go_at_call 178; refine (D _).mono ?_; rintro e w1 ⟨rfl, rfl⟩))
         go_round
         case rel => exact ⟨k + 1, by omega, by go_num, HN⟩
         case measure => simp [intOf]; omega
     · rw [hl] at L hN hS
       have HN := hN (by simp)
       clear hix hl hN hS C3 D
       go_wp2_with (first | (go_at_call 206; refine (L _).mono ?_; rintro e w1 ⟨rfl, rfl⟩))
       go_round
       case rel => exact ⟨k + 1, by omega, by go_num, HN⟩
       case measure => simp [intOf]; omega
   · obtain rfl : k = s.size := by omega
     have HT : Hid (true = R) := Lib.hid (by rw [← HR.out]; unfold onlyB; exact (allDn H.out).symm)
     clear hlt DA LA
     go_wp2
     go_ret
     exact ⟨retb HT.out, rfl⟩
theorem rightUp_any (s : ByteArray) (hs : s.size ≤ 100000) (w : World) : Calls Tryz.prog 144 #[.string s] w fun e w' => e = .returned (.bool (headDg s.data.toList && onlyB [46, 43, 45, 126, 58] s.data.toList)) ∧ w = w' := by
 have C := fun w => consists_any s ⟨#[46, 43, 45, 126, 58]⟩ hs w
 by_cases h : 0 < s.size
 · have e1 : s.toList.isEmpty = false := by rw [emptyT, decide_eq_false (by omega)]
   have D := fun w => digit_any s[0] w
   have hc := s[0].toNat_lt
   rw [head_cons h]
   have hm : (ByteArray.mk #[46, 43, 45, 126, 58]).data.toList = [46, 43, 45, 126, 58] := rfl
   rw [hm] at C
   clear hm
   generalize onlyB [46, 43, 45, 126, 58] s.data.toList = B at *
   cases hd : dgB s[0]
   · rw [hd] at D
     clear hd C
     go_enter Tryz.func144, Tryz.ntmps144
     go_wp2_with (go_at_call 178; refine (D _).mono ?_; rintro e w1 ⟨rfl, rfl⟩)
     go_ret
     exact ⟨rfl, rfl⟩
   · rw [hd] at D
     clear hd
     go_enter Tryz.func144, Tryz.ntmps144
     go_wp2_with (first | (go_at_call 178; refine (D _).mono ?_; rintro e w1 ⟨rfl, rfl⟩) | (go_at_call 179; refine (C _).mono ?_; rintro e w1 ⟨rfl, rfl⟩))
     go_ret
     exact ⟨by simp, rfl⟩
 · rw [headDg_nil (by omega)]
   have e1 : s.toList.isEmpty = true := by rw [emptyT, decide_eq_true (by omega)]
   clear C
   go_enter Tryz.func144, Tryz.ntmps144
   go_wp2
   go_ret
   exact ⟨rfl, rfl⟩
theorem rightRev_any (s : ByteArray) (hs : s.size ≤ 100000) (w : World) : Calls Tryz.prog 145 #[.string s] w fun e w' => e = .returned (.bool (decide (0 < s.size) && onlyB [46, 43, 126] s.data.toList)) ∧ w = w' := by
 have C := fun w => consists_any s ⟨#[46, 43, 126]⟩ hs w
 have hm : (ByteArray.mk #[46, 43, 126]).data.toList = [46, 43, 126] := rfl
 rw [hm] at C
 clear hm
 generalize onlyB [46, 43, 126] s.data.toList = B at *
 by_cases h : 0 < s.size
 · have e1 : s.toList.isEmpty = false := by rw [emptyT, decide_eq_false (by omega)]
   rw [decide_eq_true h, Bool.true_and]
   go_enter Tryz.func145, Tryz.ntmps145
   go_wp2_with (first | (go_at_call 179; refine (C _).mono ?_; rintro e w1 ⟨rfl, rfl⟩))
   go_ret
   exact ⟨rfl, rfl⟩
 · rw [decide_eq_false h]
   have e1 : s.toList.isEmpty = true := by rw [emptyT, decide_eq_true (by omega)]
   clear C
   go_enter Tryz.func145, Tryz.ntmps145
   go_wp2
   go_ret
   exact ⟨rfl, rfl⟩
end Go.Proofs.YtnnagboeimeiiaaGreatDoor
namespace Go.Proofs.YtnnagboeimeiiaaGreatDoor
open Go.RowKit
structure LaidV (w : World) : Prop where
 pow : Lib.TabIs Tryz.prog w "internal/strconv.uint64pow10" .u64 Lib.pow10Tab
 syn : ∃ tp p, w.var? Tryz.prog "strconv.ErrSyntax" = some #[.iface tp p]
 rng : ∃ tp p, w.var? Tryz.prog "strconv.ErrRange" = some #[.iface tp p]
 size : 8 ≤ w.heap.size
theorem gPow : Tryz.prog.globalNamed "internal/strconv.uint64pow10" = some 6 := by kernel_rfl
theorem gSyn : Tryz.prog.globalNamed "strconv.ErrSyntax" = some 4 := by kernel_rfl
theorem gRng : Tryz.prog.globalNamed "strconv.ErrRange" = some 5 := by kernel_rfl
theorem LaidV.on {w w' : World} (h : LaidV w) (hb : Below w.heap.size w w') : LaidV w' where
 pow := by
   have := h.pow
   unfold Lib.TabIs at this ⊢
   exact var?_below hb gPow (by have := h.size; omega) this
 syn := by obtain ⟨tp, p, hv⟩ := h.syn; exact ⟨tp, p, var?_below hb gSyn (by have := h.size; omega) hv⟩
 rng := by obtain ⟨tp, p, hv⟩ := h.rng; exact ⟨tp, p, var?_below hb gRng (by have := h.size; omega) hv⟩
 size := Nat.le_trans h.size hb.size
theorem LaidV.al {w : World} (h : Hid (LaidV w)) (o : Obj) : LaidV (w.alloc o) := h.out.on ((Below.refl _ _).alloc (Nat.le_refl _) o)
theorem LaidV.dr {w : World} (h : Hid (LaidV w)) (q : Nat) : LaidV (w.drewN q) := h.out.on (belowQ (Below.refl _ _) q)
-- strings.Cut at one byte
theorem idx_first (l : Bs) (c : UInt8) : Lib.indexByte l c = firstI c l := by
 induction l with
 | nil => rfl
 | cons b l ih =>
   unfold Lib.indexByte
   by_cases h : b = c
   · subst h
     rw [if_pos (by simp)]
     unfold firstI
     rw [if_pos (by simp)]; simp
   · rw [if_neg (by simpa using h), ih]
     have hm : c ∈ b :: l ↔ c ∈ l := by
       rw [List.mem_cons]
       exact ⟨fun g => g.elim (fun e => absurd e.symm h) id, .inr⟩
     unfold firstI
     by_cases g : c ∈ l
     · rw [if_pos g, if_pos (hm.2 g), List.takeWhile_cons, if_pos (decide_eq_true h), List.length_cons]
       rw [if_neg (by rw [beq_iff_eq]; omega)]
       omega
     · rw [if_neg g, if_neg (fun x => g (hm.1 x)), if_pos (by simp)]
def Cut1Post (s : ByteArray) (c : UInt8) (w : World) (e : Ending) (w' : World) : Prop :=
 (∃ q, w' = w.drewN q) ∧ ((firstI c s.data.toList = -1 ∧ e = .returned (.tuple #[.string s, .string ⟨#[]⟩, .bool false])) ∨
   ∃ k : Nat, firstI c s.data.toList = k ∧ k < s.size ∧ e = .returned (.tuple #[.string (s.extract 0 k), .string (s.extract (k + 1) s.size), .bool true]))
theorem first_cases (s : ByteArray) (c : UInt8) : firstI c s.data.toList = -1 ∨ ∃ k : Nat, firstI c s.data.toList = k ∧ k < s.size := by
 have h := firstI_ge (c := c) (l := s.data.toList)
 have hl := sizeOf s
 by_cases h0 : firstI c s.data.toList = -1
 · exact .inl h0
 · right
   refine ⟨(firstI c s.data.toList).toNat, ?_, ?_⟩ <;> rcases h with ⟨h, h'⟩ | ⟨h, h'⟩ <;> omega
theorem cut1_in (s : ByteArray) (hs : s.size ≤ 100000) (c : UInt8) (w : World) : Calls Tryz.prog 173 #[.string s, .string ⟨#[c]⟩] w (Cut1Post s c w) := by
 have C := fun w => Tryz.stringslite_Index_one s c w
 rw [idx_first] at C
 have h1s : (ByteArray.mk #[c]).size = 1 := rfl
 rcases first_cases s c with h | ⟨k, h, hk⟩
 · have HP : Hid (∀ q e, e = .returned (.tuple #[.string s, .string ⟨#[]⟩, .bool false]) → Cut1Post s c w e (w.drewN q)) := Lib.hid (fun q e he => ⟨⟨q, rfl⟩, .inl ⟨h, he⟩⟩)
   rw [h] at C
   clear h
   go_enter Tryz.func173, Tryz.ntmps173
   go_wp2_with (go_at_call 202; refine (C _).mono ?_; rintro e w1 ⟨rfl, hw⟩; subst hw)
   go_ret3
   exact HP.out 0 _ rfl
 · have HP : Hid (∀ q e, e = .returned (.tuple #[.string (s.extract 0 k), .string (s.extract (k + 1) s.size), .bool true]) → Cut1Post s c w e (w.drewN q)) := Lib.hid (fun q e he => ⟨⟨q, rfl⟩, .inr ⟨k, h, hk, he⟩⟩)
   rw [h] at C
   clear h
   go_enter Tryz.func173, Tryz.ntmps173
   go_wp2_with (go_at_call 202; refine (C _).mono ?_; rintro e w1 ⟨rfl, hw⟩; subst hw)
   go_region
   go_wp2
   go_ret3
   exact HP.out 1 _ rfl
theorem cut1_any (s : ByteArray) (hs : s.size ≤ 100000) (c : UInt8) (w : World) : Calls Tryz.prog 140 #[.string s, .string ⟨#[c]⟩] w (Cut1Post s c w) := by
 have C := cut1_in s hs c w
 rcases first_cases s c with h | ⟨k, h, hk⟩
 · have C' : Calls Tryz.prog 173 #[.string s, .string ⟨#[c]⟩] w fun e w' => e = .returned (.tuple #[.string s, .string ⟨#[]⟩, .bool false]) ∧ ∃ q, w' = w.drewN q := C.mono fun e w' hp => by
     obtain ⟨hq, ⟨_, he⟩ | ⟨j, hj, _⟩⟩ := hp
     · exact ⟨he, hq⟩
     · omega
   have HP : Hid (∀ q e, e = .returned (.tuple #[.string s, .string ⟨#[]⟩, .bool false]) → Cut1Post s c w e (w.drewN q)) := Lib.hid (fun q e he => ⟨⟨q, rfl⟩, .inl ⟨h, he⟩⟩)
   clear h C
   go_enter Tryz.func140, Tryz.ntmps140
   go_wp2_with (go_at_call 173; refine C'.mono ?_; rintro e w1 ⟨rfl, q, rfl⟩)
   go_ret3
   exact HP.out q _ rfl
 · have C' : Calls Tryz.prog 173 #[.string s, .string ⟨#[c]⟩] w fun e w' => e = .returned (.tuple #[.string (s.extract 0 k), .string (s.extract (k + 1) s.size), .bool true]) ∧ ∃ q, w' = w.drewN q := C.mono fun e w' hp => by
     obtain ⟨hq, ⟨h', _⟩ | ⟨j, hj, _, he⟩⟩ := hp
     · omega
     · obtain rfl : j = k := by omega
       exact ⟨he, hq⟩
   have HP : Hid (∀ q e, e = .returned (.tuple #[.string (s.extract 0 k), .string (s.extract (k + 1) s.size), .bool true]) → Cut1Post s c w e (w.drewN q)) := Lib.hid (fun q e he => ⟨⟨q, rfl⟩, .inr ⟨k, h, hk, he⟩⟩)
   clear h C
   go_enter Tryz.func140, Tryz.ntmps140
   go_wp2_with (go_at_call 173; refine C'.mono ?_; rintro e w1 ⟨rfl, q, rfl⟩)
   go_ret3
   exact HP.out q _ rfl
-- Numbers
theorem decFrom_yes : ∀ (l : Bs) (acc : Nat), l.all dgB = true → ∃ n : Nat, Lib.decFrom acc l = some n ∧ (n : Int) = l.foldl (fun n c => 10 * n + (c.toNat : Int) - 48) (acc : Int)
 | [], acc, _ => ⟨acc, rfl, rfl⟩
 | c :: l, acc, h => by
   rw [List.all_cons, Bool.and_eq_true] at h
   have hd := h.1
   simp only [dgB, Bool.and_eq_true, decide_eq_true_eq] at hd
   obtain ⟨n, h1, h2⟩ := decFrom_yes l (acc * 10 + (c.toNat - 48)) h.2
   refine ⟨n, ?_, ?_⟩
   · unfold Lib.decFrom Lib.digitVal
     rw [if_pos hd]; exact h1
   · rw [h2, List.foldl_cons]; congr 1; omega
theorem decFrom_no : ∀ (l : Bs) (acc : Nat), l.all dgB = false → Lib.decFrom acc l = none
 | [], acc, h => by cases h
 | c :: l, acc, h => by
   unfold Lib.decFrom Lib.digitVal
   by_cases hd : 48 ≤ c.toNat ∧ c.toNat ≤ 57
   · rw [if_pos hd]
     refine decFrom_no l _ ?_
     rw [List.all_cons] at h
     have : dgB c = true := by simp only [dgB, Bool.and_eq_true, decide_eq_true_eq]; exact hd
     rw [this, Bool.true_and] at h; exact h
   · rw [if_neg hd]
theorem uintB_short (l : Bs) (hl : l.length ≤ 18) : Lib.parseUintB 64 l = Lib.NumEnd.ofOption (Lib.decNat l) := by
 have eM : (2 : Nat) ^ 64 - 1 = 18446744073709551615 := by decide
 rw [← Lib.parseMag_short l hl]
 unfold Lib.parseUintB Lib.parseMag
 rw [eM, Lib.parseUintM_64]
def epochP (l : Bs) : Int × Int := if l ≠ [] ∧ l.length ≤ 9 ∧ l.all dgB = true then (epochOf l, 0) else (0, 2)
theorem epochP_yes {l : Bs} (h : l ≠ [] ∧ l.length ≤ 9 ∧ l.all dgB = true) : epochP l = (epochOf l, 0) := if_pos h
theorem epochP_no {l : Bs} (h : ¬ (l ≠ [] ∧ l.length ≤ 9 ∧ l.all dgB = true)) : epochP l = (0, 2) := if_neg h
theorem epoch_lt {l : Bs} (h : l.length ≤ 9) (ha : l.all dgB = true) : 0 ≤ epochOf l ∧ epochOf l < 1000000000 := by
 have h1 := epoch_bd l ha
 have h2 : (10 : Int) ^ l.length ≤ 10 ^ 9 := by exact_mod_cast Nat.pow_le_pow_right (n := 10) (by decide) h
 have e : (10 : Int) ^ 9 = 1000000000 := by decide
 omega
theorem uint_ok {l : Bs} {n : Nat} (h : Lib.parseUintB 64 l = .ok n) (hl : l.length ≤ 9) : l ≠ [] ∧ l.all dgB = true ∧ (n : Int) = epochOf l := by
 rw [uintB_short l (by omega)] at h
 unfold Lib.decNat at h
 cases l with
 | nil => cases h
 | cons c t =>
   rw [if_neg (by simp)] at h
   cases ha : (c :: t).all dgB
   · rw [decFrom_no _ _ ha] at h; cases h
   · obtain ⟨m, h1, h2⟩ := decFrom_yes (c :: t) 0 ha
     rw [h1] at h
     cases h
     exact ⟨by simp, rfl, h2⟩
theorem uint_bad {l : Bs} (h : ∀ n, Lib.parseUintB 64 l ≠ .ok n) : ¬ (l ≠ [] ∧ l.length ≤ 9 ∧ l.all dgB = true) := by
 rintro ⟨h1, h2, h3⟩
 obtain ⟨n, g1, _⟩ := decFrom_yes l 0 h3
 refine h n ?_
 rw [uintB_short l (by omega)]
 unfold Lib.decNat
 rw [if_neg (by cases l <;> simp at h1 ⊢), g1]; rfl
theorem syn_cell {w : World} (h : LaidV w) : ∃ tp p, w.cell? ⟨4, 0, none⟩ = some (.iface tp p) := by
 obtain ⟨tp, p, hv⟩ := h.syn
 exact ⟨tp, p, by have h0 := World.var?_cell gSyn hv 0; simpa using h0⟩
theorem rng_cell {w : World} (h : LaidV w) : ∃ tp p, w.cell? ⟨5, 0, none⟩ = some (.iface tp p) := by
 obtain ⟨tp, p, hv⟩ := h.rng
 exact ⟨tp, p, by have h0 := World.var?_cell gRng hv 0; simpa using h0⟩
def UintPost (l : Bs) (w : World) (e : Ending) (w' : World) : Prop :=
 Below w.heap.size w w' ∧ ((∃ n : Nat, (l.length ≤ 9 → l ≠ [] ∧ l.all dgB = true ∧ (n : Int) = epochOf l) ∧ e = .returned (.tuple #[.int .u64 n, .nilIface])) ∨
   (¬ (l ≠ [] ∧ l.length ≤ 9 ∧ l.all dgB = true)) ∧ ∃ (z : Int) (T : TypeId) (p : Value), e = .returned (.tuple #[.int .u64 z, .iface T p]))
theorem fin {w W w1 : World} (h : Below w.heap.size w W) (hb : Below W.heap.size W w1) : Below w.heap.size w w1 := h.trans (hb.mono h.size)
set_option maxHeartbeats 2000000 in
theorem uint_any (s : ByteArray) (hs : s.size ≤ 100000) (w : World) (h : LaidV w) : Calls Tryz.prog 175 #[.string s, .int .i64 10, .int .i64 64] w (UintPost s.data.toList w) := by
 have C : Calls Tryz.prog 203 #[.string s, .int .i64 10, .int .i64 64] w fun e w' => e = .returned (Lib.uintTupleM 215 18446744073709551615 (Lib.parseUintB 64 s.data.toList)) ∧ Below w.heap.size w w' :=
   (Tryz.internal_strconv_ParseUint_10_at64 s (by omega) w).mono fun e w' he => ⟨he.1, by rcases he.2 with rfl | rfl; exact Below.refl _ _; exact Lib.bytesWorld_below w _ s⟩
 have HL := Lib.hid h
 have hz : s.size ≤ 281474976710656 := by omega
 have HZ := Lib.hid hz
 clear h hz hs
 rcases g : Lib.parseUintB 64 s.data.toList with n | _ | _
 · rw [g] at C
   have HP : Hid (∀ w' e, Below w.heap.size w w' → e = .returned (.tuple #[.int .u64 n, .nilIface]) → UintPost s.data.toList w e w') := Lib.hid (fun w' e hb he => ⟨hb, .inl ⟨n, uint_ok g, he⟩⟩)
   have C' : Calls Tryz.prog 203 #[.string s, .int .i64 10, .int .i64 64] w fun e w' => e = .returned (.tuple #[.int .u64 n, .nilIface]) ∧ Below w.heap.size w w' := C
   clear g C
   go_enter Tryz.func175, Tryz.ntmps175
   go_wp2_with (go_at_call 203; refine C'.mono ?_; rintro e w1 ⟨rfl, hb⟩; have HB := Lib.hid hb; clear hb)
   go_ret2
   exact HP.out _ _ HB.out rfl
 · rw [g] at C
   have HP : Hid (∀ (T : TypeId) (p : Value) w' e, Below w.heap.size w w' → e = .returned (.tuple #[.int .u64 0, .iface T p]) → UintPost s.data.toList w e w') := Lib.hid (fun T p w' e hb he => ⟨hb, .inr ⟨uint_bad (fun n h => by rw [g] at h; cases h), _, T, p, he⟩⟩)
   have C' : Calls Tryz.prog 203 #[.string s, .int .i64 10, .int .i64 64] w fun e w' => e = .returned (.tuple #[.int .u64 0, .iface 215 (.int .i64 2)]) ∧ Below w.heap.size w w' := C
   clear g C
   go_enter Tryz.func175, Tryz.ntmps175
   go_wp2_with (go_at_call 203; refine C'.mono ?_; rintro e w1 ⟨rfl, hb⟩; refine Hid.out ?_)
   obtain ⟨tp, p, hc⟩ := syn_cell (HL.out.on hb)
   have HT := fun fn => Any.strconv_toError_syntax Tryz.laysC245 fn s 10 64 (.iface tp p) w1 HZ.out hc (Or.inr ⟨_, _, rfl⟩)
   have HB := Lib.hid hb
   clear hb hc
   refine Lib.hid ?_
   go_wp2_with (go_at_call 204; refine (HT _).mono ?_; rintro e w2 ⟨N, rfl, _, _, hb2⟩; have HB2 := Lib.hid hb2; clear hb2)
   go_ret2
   exact HP.out _ _ _ _ (fin HB.out HB2.out) rfl
 · rw [g] at C
   have HP : Hid (∀ (T : TypeId) (p : Value) w' e, Below w.heap.size w w' → e = .returned (.tuple #[.int .u64 18446744073709551615, .iface T p]) → UintPost s.data.toList w e w') := Lib.hid (fun T p w' e hb he => ⟨hb, .inr ⟨uint_bad (fun n h => by rw [g] at h; cases h), _, T, p, he⟩⟩)
   have C' : Calls Tryz.prog 203 #[.string s, .int .i64 10, .int .i64 64] w fun e w' => e = .returned (.tuple #[.int .u64 18446744073709551615, .iface 215 (.int .i64 1)]) ∧ Below w.heap.size w w' := C
   clear g C
   go_enter Tryz.func175, Tryz.ntmps175
   go_wp2_with (go_at_call 203; refine C'.mono ?_; rintro e w1 ⟨rfl, hb⟩; refine Hid.out ?_)
   obtain ⟨tp, p, hc⟩ := rng_cell (HL.out.on hb)
   have HT := fun fn => Any.strconv_toError_range Tryz.laysC245 fn s 10 64 (.iface tp p) w1 HZ.out hc (Or.inr ⟨_, _, rfl⟩)
   have HB := Lib.hid hb
   clear hb hc
   refine Lib.hid ?_
   go_wp2_with (go_at_call 204; refine (HT _).mono ?_; rintro e w2 ⟨N, rfl, _, _, hb2⟩; have HB2 := Lib.hid hb2; clear hb2)
   go_ret2
   exact HP.out _ _ _ _ (fin HB.out HB2.out) rfl
def EpochPost (l : Bs) (w : World) (e : Ending) (w' : World) : Prop := e = .returned (.tuple #[.int .i64 (epochP l).1, .int .i64 (epochP l).2]) ∧ Below w.heap.size w w'
set_option maxHeartbeats 2000000 in
theorem epoch_any (s : ByteArray) (hs : s.size ≤ 100000) (w : World) (h : LaidV w) : Calls Tryz.prog 142 #[.string s] w (EpochPost s.data.toList w) := by
 have C := uint_any s hs w h
 have hl := sizeOf s
 refine Calls.mono (R := fun e w' => EpochPost s.data.toList w e w') ?_ (fun _ _ h => h)
 by_cases hy : s.data.toList ≠ [] ∧ s.data.toList.length ≤ 9 ∧ s.data.toList.all dgB = true
 · have C' : Calls Tryz.prog 175 #[.string s, .int .i64 10, .int .i64 64] w fun e w' => e = .returned (.tuple #[.int .u64 (epochOf s.data.toList), .nilIface]) ∧ Below w.heap.size w w' := C.mono fun e w' hp => by
     obtain ⟨hb, ⟨n, hn, he⟩ | ⟨hn, _⟩⟩ := hp
     · rw [← (hn hy.2.1).2.2]; exact ⟨he, hb⟩
     · exact absurd hy hn
   have hp := epochP_yes hy
   have hb := epoch_lt hy.2.1 hy.2.2
   have HP : Hid (∀ w' e, Below w.heap.size w w' → e = .returned (.tuple #[.int .i64 (epochOf s.data.toList), .int .i64 0]) → EpochPost s.data.toList w e w') := Lib.hid (fun w' e hb he => ⟨by rw [he, hp], hb⟩)
   have h9 : s.size ≤ 9 := by rw [hl]; exact hy.2.1
   obtain ⟨hb1, hb2⟩ := hb
   generalize epochOf s.data.toList = z at *
   clear hy hp hl C h
   go_enter Tryz.func142, Tryz.ntmps142
   go_wp2_with (go_at_call 175; refine C'.mono ?_; rintro e w1 ⟨rfl, hb⟩; have HB := Lib.hid hb; clear hb)
   go_ret2
   exact HP.out _ _ HB.out rfl
 · have hp := epochP_no hy
   have HP : Hid (∀ w' e, Below w.heap.size w w' → e = .returned (.tuple #[.int .i64 0, .int .i64 2]) → EpochPost s.data.toList w e w') := Lib.hid (fun w' e hb he => ⟨by rw [he, hp], hb⟩)
   by_cases h9 : s.size ≤ 9
   · have C' : Calls Tryz.prog 175 #[.string s, .int .i64 10, .int .i64 64] w fun e w' => ∃ (z : Int) (T : TypeId) (p : Value), e = .returned (.tuple #[.int .u64 z, .iface T p]) ∧ Below w.heap.size w w' := C.mono fun e w' hp => by
       obtain ⟨hb, ⟨n, hn, he⟩ | ⟨_, z, T, p, he⟩⟩ := hp
       · have := hn (by omega)
         exact absurd ⟨this.1, by omega, this.2.1⟩ hy
       · exact ⟨z, T, p, he, hb⟩
     clear hy hp hl C h
     go_enter Tryz.func142, Tryz.ntmps142
     go_wp2_with (go_at_call 175; refine C'.mono ?_; rintro e w1 ⟨z, T, p, rfl, hb⟩; have HB := Lib.hid hb; clear hb)
     go_ret2
     exact HP.out _ _ HB.out rfl
   · have C' : Calls Tryz.prog 175 #[.string s, .int .i64 10, .int .i64 64] w fun e w' => ∃ (z : Int) (v : Value), e = .returned (.tuple #[.int .u64 z, v]) ∧ (v = .nilIface ∨ ∃ T p, v = .iface T p) ∧ Below w.heap.size w w' := C.mono fun e w' hp => by
       obtain ⟨hb, ⟨n, hn, he⟩ | ⟨_, z, T, p, he⟩⟩ := hp
       · exact ⟨_, _, he, .inl rfl, hb⟩
       · exact ⟨_, _, he, .inr ⟨T, p, rfl⟩, hb⟩
     have h9' : 9 < s.size := by omega
     clear hy hp hl C h h9
     go_enter Tryz.func142, Tryz.ntmps142
     go_wp2_with (go_at_call 175; refine C'.mono ?_; rintro e w1 ⟨z, v, rfl, (rfl | ⟨T, p, rfl⟩), hb⟩ <;> (have HB := Lib.hid hb; clear hb))
     all_goals
       go_ret2
       exact HP.out _ _ HB.out rfl
end Go.Proofs.YtnnagboeimeiiaaGreatDoor
