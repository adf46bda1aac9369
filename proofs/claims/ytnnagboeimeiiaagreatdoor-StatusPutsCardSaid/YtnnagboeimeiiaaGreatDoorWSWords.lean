import Derived.Test.YtnnagboeimeiiaaGreatDoorWPSel
import Derived.Test.YtnnagboeimeiiaaGreatDoorWVMath
import Derived.Test.YtnnagboeimeiiaaGreatDoorWVOrder
import Derived.Deep.RegionHeld3
namespace Go.Proofs.YtnnagboeimeiiaaGreatDoor
open Go.RowKit Go.Sort
def alB (c : UInt8) : Bool := decide (97 ≤ c.toNat) && decide (c.toNat ≤ 122) || decide (48 ≤ c.toNat) && decide (c.toNat ≤ 57)
def markB (c : UInt8) : Bool := c == 43 || c == 45 || c == 46
def inB (c : UInt8) : Bool := alB c || markB c
def headB : Bs → Bool
 | [] => false
 | c :: _ => alB c
def nameB (l : Bs) : Bool := decide (1 ≤ l.length) && decide (l.length ≤ 60) && headB l && l.all inB
theorem take_snoc (s : ByteArray) (k : Nat) (h : k < s.size) : s.data.toList.take (k + 1) = s.data.toList.take k ++ [s[k]] := by
 have hl : k < s.data.toList.length := by rw [← Lib.size_eq]; exact h
 rw [List.take_add_one, List.getElem?_eq_getElem hl]
 simp; rfl
theorem all_false {l : Bs} {f : UInt8 → Bool} (k : Nat) (x : UInt8) (h : x ∈ l.take k) (hf : f x = false) : l.all f = false := by
 rw [List.all_eq_false]
 exact ⟨x, List.mem_of_mem_take h, by simp [hf]⟩
theorem all_next {s : ByteArray} {f : UInt8 → Bool} {k : Nat} (h : k < s.size) (ha : (s.data.toList.take k).all f = true) (hf : f s[k] = true) : (s.data.toList.take (k + 1)).all f = true := by
 rw [take_snoc s k h, List.all_append, ha]; simp [hf]
theorem all_stop {s : ByteArray} {f : UInt8 → Bool} {k : Nat} (h : k < s.size) (hf : f s[k] = false) : s.data.toList.all f = false :=
 all_false (k + 1) s[k] (by rw [take_snoc s k h]; simp) hf
theorem all_done {s : ByteArray} {f : UInt8 → Bool} (ha : (s.data.toList.take s.size).all f = true) : s.data.toList.all f = true := by
 rwa [List.take_of_length_le (by rw [← Lib.size_eq]; exact Nat.le_refl _)] at ha
theorem alnum_any (c : UInt8) (w : World) : Calls Tryz.prog 93 #[.int .u8 c.toNat] w fun e w' => e = .returned (.bool (alB c)) ∧ w = w' := by
 have hc := c.toNat_lt
 obtain ⟨B, HB⟩ : ∃ B, Hid (alB c = B) := ⟨_, rfl⟩
 rw [HB.out]
 unfold alB at HB
 generalize c.toNat = n at *
 by_cases h1 : 97 ≤ n
 · by_cases h2 : n ≤ 122
   · go_enter Tryz.func93, Tryz.ntmps93
     go_wp2
     go_ret
     exact ⟨ret_bool (by rw [← HB.out, Bool.eq_iff_iff]; simp only [Bool.or_eq_true, Bool.and_eq_true, decide_eq_true_eq, true_iff]; omega), rfl⟩
   · go_enter Tryz.func93, Tryz.ntmps93
     go_wp2
     go_ret
     exact ⟨ret_bool (by rw [← HB.out, Bool.eq_iff_iff]; simp only [Bool.or_eq_true, Bool.and_eq_true, decide_eq_true_eq]; omega), rfl⟩
 · by_cases h3 : 48 ≤ n
   · go_enter Tryz.func93, Tryz.ntmps93
     go_wp2
     go_ret
     exact ⟨ret_bool (by rw [← HB.out, Bool.eq_iff_iff]; simp only [Bool.or_eq_true, Bool.and_eq_true, decide_eq_true_eq]; omega), rfl⟩
   · go_enter Tryz.func93, Tryz.ntmps93
     go_wp2
     go_ret
     exact ⟨ret_bool (by rw [← HB.out, Bool.eq_iff_iff]; simp only [Bool.or_eq_true, Bool.and_eq_true, decide_eq_true_eq, Bool.false_eq_true, false_iff]; omega), rfl⟩
set_option maxHeartbeats 1000000 in
theorem printable_any (s : ByteArray) (hs : s.size ≤ 4000) (w : World) : Calls Tryz.prog 208 #[.string s] w fun e w' => e = .returned (.bool (s.data.toList.all okb)) ∧ w = w' := by
 obtain ⟨B, HB⟩ : ∃ B, Hid (s.data.toList.all okb = B) := ⟨_, rfl⟩
 rw [HB.out]
 go_enter Tryz.func208, Tryz.ntmps208
 go_wp2
 go_loop [6] (fun i => ∃ k : Nat, k ≤ s.size ∧ i = .int .i64 k ∧ Hid ((s.data.toList.take k).all okb = true)) (fun i => s.size - (intOf i).toNat)
 case atStart => exact ⟨0, by omega, rfl, Lib.hid (by simp)⟩
 case round =>
   obtain ⟨k, hk, rfl, H⟩ := hrel
   by_cases hlt : k < s.size
   · have hc := s[k].toNat_lt
     by_cases h1 : s[k].toNat < 33
     · have HR : Hid (false = B) := Lib.hid (by rw [← HB.out, all_stop hlt (by unfold okb; rw [decide_eq_false (by omega)]; rfl)])
       go_wp2
       go_ret
       exact ⟨ret_bool HR.out, rfl⟩
     · by_cases h2 : 126 < s[k].toNat
       · have HR : Hid (false = B) := Lib.hid (by rw [← HB.out, all_stop hlt (by unfold okb; rw [decide_eq_false (p := s[k].toNat ≤ 126) (by omega)]; simp)])
         go_wp2
         go_ret
         exact ⟨ret_bool HR.out, rfl⟩
       · have HN : Hid ((s.data.toList.take (k + 1)).all okb = true) := Lib.hid (all_next hlt H.out (by unfold okb; rw [decide_eq_true (by omega), decide_eq_true (by omega)]; rfl))
         go_wp2
         go_round
         case rel => exact ⟨k + 1, by omega, by go_num, HN⟩
         case measure => simp [intOf]; omega
   · obtain rfl : k = s.size := by omega
     have HR : Hid (true = B) := Lib.hid (by rw [← HB.out]; exact (all_done H.out).symm)
     clear hlt
     go_wp2
     go_ret
     exact ⟨ret_bool HR.out, rfl⟩
theorem mark_idx (c : UInt8) : Lib.indexByte (ByteArray.mk #[43, 45, 46]).data.toList (c.toNat : Int).toNat.toUInt8 < 0 ↔ markB c = false := by
 have e : (c.toNat : Int).toNat.toUInt8 = c := by simp
 rw [e]
 unfold markB
 simp only [Lib.indexByte]
 by_cases h1 : c = 43
 · subst h1; decide
 · by_cases h2 : c = 45
   · subst h2; decide
   · by_cases h3 : c = 46
     · subst h3; decide
     · have a1 : ((43 : UInt8) == c) = false := by simp; exact fun h => h1 h.symm
       have a2 : ((45 : UInt8) == c) = false := by simp; exact fun h => h2 h.symm
       have a3 : ((46 : UInt8) == c) = false := by simp; exact fun h => h3 h.symm
       simp [a1, a2, a3, h1, h2, h3]
theorem nat_of_u8 {a b : UInt8} : a = b ↔ a.toNat = b.toNat := UInt8.toNat_inj.symm
set_option maxHeartbeats 2000000 in
theorem name_any (s : ByteArray) (hs : s.size ≤ 4000) (w : World) : Calls Tryz.prog 46 #[.string s] w fun e w' => e = .returned (.bool (nameB s.data.toList)) ∧ w = w' := by
 obtain ⟨B, HB⟩ : ∃ B, Hid (nameB s.data.toList = B) := ⟨_, rfl⟩
 rw [HB.out]
 have hl := Lib.size_eq s
 by_cases h0 : 1 ≤ s.size ∧ s.size ≤ 60
 · obtain ⟨h1, h60⟩ := h0
   have hhd : headB s.data.toList = alB s[0] := by
     have : s.data.toList = s[0] :: s.data.toList.drop 1 := by
       have := List.drop_eq_getElem_cons (l := s.data.toList) (i := 0) (by omega)
       rw [List.drop_zero] at this
       exact this
     rw [this]; rfl
   have HE : Hid ((alB s[0] && s.data.toList.all inB) = B) := Lib.hid (by rw [← HB.out, nameB, decide_eq_true (by omega), decide_eq_true (by omega), hhd]; rfl)
   clear hl hhd
   have C1 := fun c w => alnum_any c w
   cases ha : alB s[0]
   · have HR : Hid (false = B) := Lib.hid (by rw [← HE.out, ha]; rfl)
     have C0 := C1 s[0]
     rw [ha] at C0
     clear ha HE HB C1
     have hc := s[0].toNat_lt
     go_enter Tryz.func46, Tryz.ntmps46
     go_wp2_with (go_at_call 93; refine (C0 _).mono ?_; rintro e w1 ⟨rfl, rfl⟩)
     go_ret
     exact ⟨ret_bool HR.out, rfl⟩
   · have HF : Hid (s.data.toList.all inB = B) := Lib.hid (by rw [← HE.out, ha, Bool.true_and])
     have C0 := C1 s[0]
     rw [ha] at C0
     clear ha HE HB
     have hc := s[0].toNat_lt
     go_enter Tryz.func46, Tryz.ntmps46
     go_wp2_with (go_at_call 93; refine (C0 _).mono ?_; rintro e w1 ⟨rfl, rfl⟩)
     clear C0 hc
     go_loop [20] (fun i => ∃ k : Nat, k ≤ s.size ∧ i = .int .i64 k ∧ Hid ((s.data.toList.take k).all inB = true)) (fun i => s.size - (intOf i).toNat)
     case atStart => exact ⟨0, by omega, rfl, Lib.hid (by simp)⟩
     case round =>
       obtain ⟨k, hk, rfl, H⟩ := hrel
       by_cases hlt : k < s.size
       · have hc := s[k].toNat_lt
         have CK := C1 s[k]
         cases hal : alB s[k]
         · rw [hal] at CK
           have C3 := fun w => Tryz.strings_IndexByte ⟨#[43, 45, 46]⟩ (s[k].toNat : Int) w
           have hge := Lib.indexByte_ge (ByteArray.mk #[43, 45, 46]).data.toList (s[k].toNat : Int).toNat.toUInt8
           have hix := mark_idx s[k]
           generalize Lib.indexByte (ByteArray.mk #[43, 45, 46]).data.toList (s[k].toNat : Int).toNat.toUInt8 = ix at C3 hge hix
           cases hm : markB s[k]
           · have hneg : ix < 0 := hix.2 hm
             have HR : Hid (false = B) := Lib.hid (by rw [← HF.out, all_stop hlt (by unfold inB; rw [hal, hm]; rfl)])
             clear hal hm hix C1
             go_wp2_with (first | (go_at_call 93; refine (CK _).mono ?_; rintro e w1 ⟨rfl, rfl⟩) | (go_at_call 94; refine (C3 _).mono ?_; rintro e w1 ⟨rfl, rfl⟩))
             go_ret
             exact ⟨ret_bool HR.out, rfl⟩
           · have hneg : ¬ ix < 0 := fun h => by rw [hix.1 h] at hm; cases hm
             have HN : Hid ((s.data.toList.take (k + 1)).all inB = true) := Lib.hid (all_next hlt H.out (by unfold inB; rw [hal, hm]; rfl))
             clear hal hm hix C1
             go_wp2_with (first | (go_at_call 93; refine (CK _).mono ?_; rintro e w1 ⟨rfl, rfl⟩) | (go_at_call 94; refine (C3 _).mono ?_; rintro e w1 ⟨rfl, rfl⟩))
             go_round
             case rel => exact ⟨k + 1, by omega, by go_num, HN⟩
             case measure => simp [intOf]; omega
         · rw [hal] at CK
           have HN : Hid ((s.data.toList.take (k + 1)).all inB = true) := Lib.hid (all_next hlt H.out (by unfold inB; rw [hal]; rfl))
           clear hal C1
           go_wp2_with (go_at_call 93; refine (CK _).mono ?_; rintro e w1 ⟨rfl, rfl⟩)
           go_round
           case rel => exact ⟨k + 1, by omega, by go_num, HN⟩
           case measure => simp [intOf]; omega
       · obtain rfl : k = s.size := by omega
         have HR : Hid (true = B) := Lib.hid (by rw [← HF.out]; exact (all_done H.out).symm)
         clear hlt C1
         go_wp2
         go_ret
         exact ⟨ret_bool HR.out, rfl⟩
 · have HR : Hid (false = B) := Lib.hid (by
     rw [← HB.out, nameB]
     by_cases h : 1 ≤ s.data.toList.length
     · rw [decide_eq_false (p := s.data.toList.length ≤ 60) (by omega)]; simp
     · rw [decide_eq_false h]; rfl)
   have h0' : s.size < 1 ∨ (1 ≤ s.size ∧ 60 < s.size) := by omega
   clear h0 HB hl
   rcases h0' with h0 | ⟨h0, h60⟩
   · go_enter Tryz.func46, Tryz.ntmps46
     go_wp2
     go_ret
     exact ⟨ret_bool HR.out, rfl⟩
   · go_enter Tryz.func46, Tryz.ntmps46
     go_wp2
     go_ret
     exact ⟨ret_bool HR.out, rfl⟩
end Go.Proofs.YtnnagboeimeiiaaGreatDoor
namespace Go.Proofs.YtnnagboeimeiiaaGreatDoor
open Go.RowKit Go.Sort
theorem cls (n : Nat) : (97 ≤ n ∧ n ≤ 122) ∨ (48 ≤ n ∧ n ≤ 57) ∨ (n = 43 ∨ n = 45 ∨ n = 46) ∨ (122 < n ∨ (57 < n ∧ n < 97) ∨ (n < 48 ∧ ¬ n = 43 ∧ ¬ n = 45 ∧ ¬ n = 46)) := by omega
theorem alB_iff (c : UInt8) : alB c = true ↔ (97 ≤ c.toNat ∧ c.toNat ≤ 122) ∨ (48 ≤ c.toNat ∧ c.toNat ≤ 57) := by
 unfold alB; simp only [Bool.or_eq_true, Bool.and_eq_true, decide_eq_true_eq]
theorem markB_iff (c : UInt8) : markB c = true ↔ c.toNat = 43 ∨ c.toNat = 45 ∨ c.toNat = 46 := by
 unfold markB
 simp only [Bool.or_eq_true, beq_iff_eq, nat_of_u8]
 show (c.toNat = 43 ∨ c.toNat = 45) ∨ c.toNat = 46 ↔ _
 omega
theorem inB_iff (c : UInt8) : inB c = true ↔ alB c = true ∨ markB c = true := by unfold inB; rw [Bool.or_eq_true]
theorem inB_no {c : UInt8} (h1 : ¬ alB c = true) (h2 : ¬ markB c = true) : inB c = false := by
 cases h : inB c with
 | false => rfl
 | true => exact absurd ((inB_iff c).1 h) (fun h => h.elim h1 h2)
def NameTo (l : Bs) (k : Nat) : Prop := (l.take k).all inB = true ∧ (0 < k → headB l = true)
theorem nameTo_next {s : ByteArray} {k : Nat} (h : k < s.size) (H : NameTo s.data.toList k) (hi : inB s[k] = true) (h0 : k = 0 → alB s[k] = true) : NameTo s.data.toList (k + 1) := by
 refine ⟨all_next h H.1 hi, fun _ => ?_⟩
 by_cases hk : k = 0
 · subst hk
   have hl := Lib.size_eq s
   have := List.drop_eq_getElem_cons (l := s.data.toList) (i := 0) (by omega)
   rw [List.drop_zero] at this
   rw [this]
   exact h0 rfl
 · exact H.2 (by omega)
theorem name_bad {s : ByteArray} {k : Nat} (h : k < s.size) (hi : inB s[k] = false) : nameB s.data.toList = false := by
 unfold nameB; rw [all_stop h hi, Bool.and_false]
theorem name_bad0 {s : ByteArray} (h : 0 < s.size) (hi : ¬ alB s[0] = true) : nameB s.data.toList = false := by
 have hl := Lib.size_eq s
 have := List.drop_eq_getElem_cons (l := s.data.toList) (i := 0) (by omega)
 rw [List.drop_zero] at this
 have e : headB s.data.toList = false := by
   rw [this]
   cases h : headB (s.data.toList[0] :: List.drop (0 + 1) s.data.toList) with
   | false => rfl
   | true => exact absurd h hi
 unfold nameB; rw [e, Bool.and_false, Bool.false_and]
theorem name_end {s : ByteArray} (H : NameTo s.data.toList s.size) : nameB s.data.toList = (decide (1 ≤ s.size) && decide (s.size ≤ 60)) := by
 have hl := Lib.size_eq s
 unfold nameB
 rw [all_done H.1, ← hl]
 by_cases h : 1 ≤ s.size
 · rw [H.2 h]; simp
 · rw [decide_eq_false h]; simp
set_option maxHeartbeats 2000000 in
theorem name_ref (s : ByteArray) (hs : s.size ≤ 4000) (w : World) : Calls Tryz.prog 52 #[.string s] w fun e w' => e = .returned (.bool (nameB s.data.toList)) ∧ w = w' := by
 obtain ⟨B, HB⟩ : ∃ B, Hid (nameB s.data.toList = B) := ⟨_, rfl⟩
 rw [HB.out]
 go_enter Tryz.func52, Tryz.ntmps52
 go_wp2
 go_loop [3] (fun i => ∃ k : Nat, k ≤ s.size ∧ i = .int .i64 k ∧ Hid (NameTo s.data.toList k)) (fun i => s.size - (intOf i).toNat)
 case atStart => exact ⟨0, by omega, rfl, Lib.hid ⟨by simp, fun h => absurd h (by omega)⟩⟩
 case round =>
   obtain ⟨k, hk, rfl, H⟩ := hrel
   by_cases hlt : k < s.size
   · have hc := s[k].toNat_lt
     rcases cls s[k].toNat with h | h | h | h
     · have HN : Hid (NameTo s.data.toList (k + 1)) := Lib.hid (nameTo_next hlt H.out ((inB_iff _).2 (.inl ((alB_iff _).2 (.inl h)))) (fun _ => (alB_iff _).2 (.inl h)))
       obtain ⟨ha, hb⟩ := h
       go_wp2
       go_round
       case rel => exact ⟨k + 1, by omega, by go_num, HN⟩
       case measure => simp [intOf]; omega
     · have HN : Hid (NameTo s.data.toList (k + 1)) := Lib.hid (nameTo_next hlt H.out ((inB_iff _).2 (.inl ((alB_iff _).2 (.inr h)))) (fun _ => (alB_iff _).2 (.inr h)))
       obtain ⟨ha, hb⟩ := h
       go_wp2
       go_round
       case rel => exact ⟨k + 1, by omega, by go_num, HN⟩
       case measure => simp [intOf]; omega
     · have hm : markB s[k] = true := (markB_iff _).2 h
       have hna : ¬ alB s[k] = true := fun e => by have := (alB_iff _).1 e; omega
       by_cases hk0 : k = 0
       · have HR : Hid (false = B) := Lib.hid (by rw [← HB.out]; exact (name_bad0 (by omega) (by subst hk0; exact hna)).symm)
         have hkb : ((k : Int) == 0) = true := by simp [hk0]
         clear hm hna hk0
         rcases h with h | h | h
         all_goals
           go_wp2
           go_ret
           exact ⟨ret_bool HR.out, rfl⟩
       · have HN : Hid (NameTo s.data.toList (k + 1)) := Lib.hid (nameTo_next hlt H.out ((inB_iff _).2 (.inr hm)) (fun e => absurd e hk0))
         have hkb : ((k : Int) == 0) = false := by simp [hk0]
         clear hm hna
         rcases h with h | h | h
         all_goals
           go_wp2
           go_round
           case rel => exact ⟨k + 1, by omega, by go_num, HN⟩
           case measure => simp [intOf]; omega
     · have HR : Hid (false = B) := Lib.hid (by rw [← HB.out]; exact (name_bad hlt (inB_no (fun e => by have := (alB_iff _).1 e; omega) (fun e => by have := (markB_iff _).1 e; omega))).symm)
       rcases h with h | ⟨h, h'⟩ | ⟨h, h1, h2, h3⟩
       · go_wp2
         go_ret
         exact ⟨ret_bool HR.out, rfl⟩
       · go_wp2
         go_ret
         exact ⟨ret_bool HR.out, rfl⟩
       · have h1' : ((s[k].toNat : Int) == 43) = false := by simp; omega
         have h2' : ((s[k].toNat : Int) == 45) = false := by simp; omega
         have h3' : ((s[k].toNat : Int) == 46) = false := by simp; omega
         go_wp2
         go_ret
         exact ⟨ret_bool HR.out, rfl⟩
   · obtain rfl : k = s.size := by omega
     have HE := Lib.hid ((name_end H.out).symm.trans HB.out)
     clear hlt HB H
     by_cases h1 : 1 ≤ s.size
     · go_wp2
       go_ret
       exact ⟨ret_bool (by rw [← HE.out, decide_eq_true h1, Bool.true_and, Bool.eq_iff_iff]; simp only [decide_eq_true_eq]; omega), rfl⟩
     · go_wp2
       go_ret
       exact ⟨ret_bool (by rw [← HE.out, decide_eq_false h1]; simp), rfl⟩
end Go.Proofs.YtnnagboeimeiiaaGreatDoor
namespace Go.Proofs.YtnnagboeimeiiaaGreatDoor
open Go.Lib
-- Cut at a byte
def spl (c : UInt8) : Bs → List Bs
 | [] => [[]]
 | x :: s => if x = c then [] :: spl c s else match spl c s with
   | [] => [[x]]
   | p :: ps => (x :: p) :: ps
def glue (u : Bs) : List Bs → List Bs
 | [] => [u]
 | p :: ps => (u ++ p) :: ps
theorem spl_ne (c : UInt8) (s : Bs) : spl c s ≠ [] := by
 cases s with
 | nil => simp [spl]
 | cons x s =>
   unfold spl; split
   · simp
   · split <;> simp
theorem spl_cons (c x : UInt8) (s : Bs) : spl c (x :: s) = if x = c then [] :: spl c s else glue [x] (spl c s) := by
 rw [spl]; split
 · rfl
 · cases spl c s <;> rfl
theorem glue_glue (u v : Bs) (l : List Bs) : glue u (glue v l) = glue (u ++ v) l := by cases l <;> simp [glue]
theorem glue_nil {l : List Bs} (h : l ≠ []) : glue [] l = l := by cases l <;> simp_all [glue]
theorem spl_run (c : UInt8) (u s : Bs) (h : c ∉ u) : spl c (u ++ s) = glue u (spl c s) := by
 induction u with
 | nil => rw [List.nil_append, glue_nil (spl_ne _ _)]
 | cons x u ih =>
   simp only [List.mem_cons, not_or] at h
   rw [List.cons_append, spl_cons, if_neg (fun e => h.1 e.symm), ih h.2, glue_glue]; rfl
theorem spl_no (c : UInt8) (u : Bs) (h : c ∉ u) : spl c u = [u] := by
 have := spl_run c u [] h
 simpa [spl, glue] using this
theorem spl_at (c : UInt8) (u s : Bs) (h : c ∉ u) : spl c (u ++ c :: s) = u :: spl c s := by
 rw [spl_run c u _ h, spl_cons, if_pos rfl]; simp [glue]
theorem spl_step (c : UInt8) (s : ByteArray) (k : Nat) (h : k < s.size) : spl c (s.data.toList.drop k) = if s[k] = c then [] :: spl c (s.data.toList.drop (k + 1)) else glue [s[k]] (spl c (s.data.toList.drop (k + 1))) := by
 have hl : k < s.data.toList.length := by rw [← Lib.size_eq]; exact h
 rw [List.drop_eq_getElem_cons hl, spl_cons]; rfl
def joinC (c : UInt8) : List Bs → Bs
 | [] => []
 | [p] => p
 | p :: q :: ps => p ++ c :: joinC c (q :: ps)
theorem joinC_cons (c : UInt8) (p : Bs) {l : List Bs} (h : l ≠ []) : joinC c (p :: l) = p ++ c :: joinC c l := by cases l <;> simp_all [joinC]
theorem joinC_glue (c : UInt8) (u : Bs) (l : List Bs) : joinC c (glue u l) = u ++ joinC c l := by
 match l with
 | [] => simp [glue, joinC]
 | [p] => simp [glue, joinC]
 | p :: q :: ps => simp [glue, joinC]
theorem joinC_spl (c : UInt8) (s : Bs) : joinC c (spl c s) = s := by
 induction s with
 | nil => rfl
 | cons x s ih =>
   rw [spl_cons]; split
   · rename_i h; subst h; rw [joinC_cons _ _ (spl_ne _ _), ih]; rfl
   · rw [joinC_glue, ih]; rfl
theorem glue_mem {u : Bs} {l : List Bs} {p : Bs} (h : p ∈ glue u l) : p = u ∨ (∃ q ∈ l, p = u ++ q) ∨ p ∈ l := by
 cases l with
 | nil => left; simpa [glue] using h
 | cons q l =>
   rcases List.mem_cons.1 h with h | h
   · right; left; exact ⟨q, List.mem_cons_self, h⟩
   · right; right; exact List.mem_cons_of_mem _ h
theorem spl_clean (c : UInt8) (s : Bs) : ∀ p ∈ spl c s, c ∉ p ∧ ∀ x ∈ p, x ∈ s := by
 induction s with
 | nil => intro p hp; simp [spl] at hp; subst hp; simp
 | cons x s ih =>
   intro p hp
   rw [spl_cons] at hp
   split at hp
   · rcases List.mem_cons.1 hp with rfl | hp
     · simp
     · exact ⟨(ih p hp).1, fun y hy => List.mem_cons_of_mem _ ((ih p hp).2 y hy)⟩
   · rename_i hx
     rcases glue_mem hp with rfl | ⟨q, hq, rfl⟩ | hp
     · simp [Ne.symm hx]
     · constructor
       · simp [Ne.symm hx, (ih q hq).1]
       · intro y hy
         rcases List.mem_append.1 hy with hy | hy
         · simp at hy; simp [hy]
         · exact List.mem_cons_of_mem _ ((ih q hq).2 y hy)
     · exact ⟨(ih p hp).1, fun y hy => List.mem_cons_of_mem _ ((ih p hp).2 y hy)⟩
theorem spl_joinC (c : UInt8) : ∀ (l : List Bs), l ≠ [] → (∀ p ∈ l, c ∉ p) → spl c (joinC c l) = l
 | [], h, _ => absurd rfl h
 | [p], _, h => spl_no c p (h p (by simp))
 | p :: q :: ps, _, h => by
   rw [joinC, spl_at c p _ (h p (by simp)), spl_joinC c (q :: ps) (by simp) (fun x hx => h x (List.mem_cons_of_mem _ hx))]
theorem spl_len (c : UInt8) (s : Bs) : (spl c s).length ≤ s.length + 1 := by
 induction s with
 | nil => simp [spl]
 | cons x s ih =>
   rw [spl_cons]; split
   · simp; omega
   · have e : (glue [x] (spl c s)).length = (spl c s).length := by
       have := spl_ne c s
       cases h : spl c s with
       | nil => exact absurd h this
       | cons _ _ => simp [glue]
     rw [e]; simp; omega
theorem glue_len {u : Bs} {l : List Bs} {N : Nat} (h : ∀ p ∈ l, p.length ≤ N) : ∀ p ∈ glue u l, p.length ≤ u.length + N := fun p hp => by
 rcases glue_mem hp with rfl | ⟨q, hq, rfl⟩ | hp
 · omega
 · have := h q hq; rw [List.length_append]; omega
 · have := h p hp; omega
theorem spl_piece (c : UInt8) (s : Bs) : ∀ p ∈ spl c s, p.length ≤ s.length := by
 induction s with
 | nil => intro p hp; simp [spl] at hp; subst hp; simp
 | cons x s ih =>
   intro p hp
   rw [spl_cons] at hp
   split at hp
   · rcases List.mem_cons.1 hp with rfl | hp
     · simp
     · have := ih p hp; rw [List.length_cons]; omega
   · have := glue_len ih p hp; rw [List.length_cons]; simp at this; omega
-- Lines
def ended10 (l : List Bs) : Bs := l.flatMap fun p => p ++ [10]
theorem spl_ended (l : List Bs) (h : ∀ p ∈ l, (10 : UInt8) ∉ p) : spl 10 (ended10 l) = l ++ [[]] := by
 induction l with
 | nil => rfl
 | cons p l ih =>
   have e : ended10 (p :: l) = p ++ 10 :: ended10 l := by simp [ended10]
   rw [e, spl_at _ _ _ (h p (by simp)), ih (fun q hq => h q (List.mem_cons_of_mem _ hq))]; rfl
def linesO (s : Bs) : Option (List Bs) := if (spl 10 s).getLast? = some [] then some (spl 10 s).dropLast else none
theorem lines_ended (l : List Bs) (h : ∀ p ∈ l, (10 : UInt8) ∉ p) : linesO (ended10 l) = some l := by unfold linesO; rw [spl_ended l h]; simp
def wordsL (s : Bs) : List Bs := (spl 32 s).filter (· ≠ [])
-- Fields
abbrev Fld := Bs × Bs
def upB (c : UInt8) : Bool := decide (65 ≤ c.toNat) && decide (c.toNat ≤ 90)
def nmB (c : UInt8) : Bool := ltB c || dgB c || decide (c.toNat = 45)
def txB (c : UInt8) : Bool := decide (c.toNat = 10) || decide (32 ≤ c.toNat) && decide (c.toNat ≤ 126)
def headUp : Bs → Bool
 | [] => false
 | c :: _ => upB c
def endB (p : Bs) : Bool := !decide (p.getLast? = some 32)
def linesB : List Bs → Bool
 | [] => true
 | p :: ps => !decide (p.head? = some 32) && endB p && ps.all fun q => endB q && decide (q ≠ [])
def fieldB (f : Fld) : Bool := decide (1 ≤ f.1.length) && decide (f.1.length ≤ 60) && decide (f.2.length ≤ 65536) && headUp f.1 && f.1.all nmB && f.2.all txB && linesB (spl 10 f.2)
def lowC (c : UInt8) : UInt8 := if upB c = true then c + 32 else c
def lower (s : Bs) : Bs := s.map lowC
def stB : List Bs → List Fld → Bool
 | _, [] => true
 | seen, f :: fs => !decide (lower f.1 ∈ seen) && fieldB f && stB (seen ++ [lower f.1]) fs
def stanzaB (st : List Fld) : Bool := decide (st ≠ []) && stB [] st
-- Printed
def tailLine (p : Bs) : Bs := 32 :: (p ++ [10])
def headLine (p : Bs) : Bs := (if p ≠ [] then 32 :: p else p) ++ [10]
def printT : List Bs → Bs
 | [] => []
 | p :: ps => headLine p ++ ps.flatMap tailLine
def printF (f : Fld) : Bs := f.1 ++ 58 :: printT (spl 10 f.2)
def printS (st : List Fld) : Bs := st.flatMap printF
def printSs : List (List Fld) → Bs
 | [] => []
 | [st] => printS st
 | st :: st' :: l => printS st ++ 10 :: printSs (st' :: l)
def printE (l : List (List Fld)) : Bs × Int :=
 if 64 < l.length ∨ l.any (fun st => decide (64 < st.length)) = true then ([], 22) else if l.all stanzaB = true then (printSs l, 0) else ([], 1)
-- Parsed
def headF (s : Bs) : Option Fld :=
 if colonAt s < s.length then some (s.take (colonAt s), if (s.drop (colonAt s + 1)).head? = some 32 then (s.drop (colonAt s + 1)).tail else s.drop (colonAt s + 1)) else none
def addLine (at' : List Fld) (p : Bs) : List Fld := at'.dropLast ++ (at'.getLast?.map fun f => (f.1, f.2 ++ 10 :: p)).toList
def pstep (st : Option (List (List Fld) × List Fld)) (p : Bs) : Option (List (List Fld) × List Fld) :=
 match st with
 | none => none
 | some (out, at') =>
   if p = [] then some (out ++ [at'], [])
   else if p.head? = some 32 ∧ at' ≠ [] then some (out, addLine at' p.tail)
   else match headF p with
     | none => none
     | some f => some (out, at' ++ [f])
def parseL (ls : List Bs) : Option (List (List Fld)) :=
 match ls.foldl pstep (some ([], [])) with
 | none => none
 | some (out, at') => some (if ls = [] then out else out ++ [at'])
def parseS (s : Bs) : Option (List (List Fld)) :=
 match linesO s with
 | none => none
 | some ls => match parseL ls with
   | none => none
   | some l => if printE l = (s, 0) then some l else none
theorem parse_print {s : Bs} {l : List (List Fld)} (h : parseS s = some l) : printE l = (s, 0) := by
 unfold parseS at h
 split at h
 · cases h
 · split at h
   · cases h
   · split at h
     · cases h; assumption
     · cases h
-- What is printed is parsed as it was
def headLine' (p : Bs) : Bs := if p ≠ [] then 32 :: p else p
def linesF (f : Fld) : List Bs := match spl 10 f.2 with
 | [] => []
 | p :: ps => (f.1 ++ 58 :: headLine' p) :: ps.map fun q => 32 :: q
theorem printF_lines (f : Fld) : printF f = ended10 (linesF f) := by
 unfold printF linesF
 cases h : spl 10 f.2 with
 | nil => exact absurd h (spl_ne _ _)
 | cons p ps =>
   simp only [printT, ended10, List.flatMap_cons, List.flatMap_map]
   have : headLine p = headLine' p ++ [10] := rfl
   rw [this]
   simp only [List.append_assoc, List.cons_append, List.nil_append]
   congr 3
def linesS (st : List Fld) : List Bs := st.flatMap linesF
theorem printS_lines (st : List Fld) : printS st = ended10 (linesS st) := by
 unfold printS linesS ended10
 rw [List.flatMap_assoc]
 congr 1; funext f; exact printF_lines f
def linesSs : List (List Fld) → List Bs
 | [] => []
 | [st] => linesS st
 | st :: st' :: l => linesS st ++ [] :: linesSs (st' :: l)
theorem ended10_append (a b : List Bs) : ended10 (a ++ b) = ended10 a ++ ended10 b := by simp [ended10]
theorem printSs_lines : ∀ l : List (List Fld), printSs l = ended10 (linesSs l)
 | [] => rfl
 | [st] => printS_lines st
 | st :: st' :: l => by
   rw [printSs, linesSs, ended10_append, printS_lines, printSs_lines (st' :: l)]
   rfl
structure FldOk (f : Fld) : Prop where
 ne : f.1 ≠ []
 up : headUp f.1 = true
 nm : f.1.all nmB = true
 tx : f.2.all txB = true
 ls : linesB (spl 10 f.2) = true
theorem field_ok {f : Fld} (h : fieldB f = true) : FldOk f := by
 unfold fieldB at h
 simp only [Bool.and_eq_true, decide_eq_true_eq] at h
 obtain ⟨⟨⟨⟨⟨⟨h1, h2⟩, h3⟩, h4⟩, h5⟩, h6⟩, h7⟩ := h
 exact ⟨by intro e; rw [e] at h1; simp at h1, h4, h5, h6, h7⟩
theorem nm_not {f : Fld} (h : FldOk f) {c : UInt8} (hc : nmB c = false) : c ∉ f.1 := fun hm => by
 have := List.all_eq_true.1 h.nm c hm; rw [hc] at this; cases this
theorem head_not {f : Fld} (h : FldOk f) (r : Bs) : (f.1 ++ r).head? ≠ some 32 ∧ f.1 ++ r ≠ [] := by
 have := h.up
 cases hf : f.1 with
 | nil => exact absurd hf h.ne
 | cons c t =>
   rw [hf] at this
   constructor
   · simp only [List.cons_append, List.head?_cons, ne_eq, Option.some.injEq]
     rintro rfl; simp [headUp, upB] at this
   · simp
theorem headF_line {f : Fld} (h : FldOk f) (p : Bs) (hp : p.head? ≠ some 32) : headF (f.1 ++ 58 :: headLine' p) = some (f.1, p) := by
 have h58 : (58 : UInt8) ∉ f.1 := nm_not h (by decide)
 have hd : List.drop (f.1.length + 1) (f.1 ++ 58 :: headLine' p) = headLine' p := by
   have : f.1 ++ 58 :: headLine' p = (f.1 ++ [58]) ++ headLine' p := by simp
   rw [this]; exact List.drop_left' (by simp)
 unfold headF
 rw [colonAt_at _ _ h58, if_pos (by simp), hd, List.take_left' rfl]
 unfold headLine'
 by_cases e : p = []
 · subst e; simp
 · rw [if_pos e]; simp
theorem fold_tail (ps : List Bs) (hps : ∀ q ∈ ps, q ≠ []) : ∀ (out : List (List Fld)) (at' : List Fld) (n t : Bs), (ps.map fun q => (32 : UInt8) :: q).foldl pstep (some (out, at' ++ [(n, t)])) = some (out, at' ++ [(n, t ++ ps.flatMap fun q => 10 :: q)]) := by
 induction ps with
 | nil => intro out at' n t; simp
 | cons q ps ih =>
   intro out at' n t
   rw [List.map_cons, List.foldl_cons]
   have : pstep (some (out, at' ++ [(n, t)])) (32 :: q) = some (out, at' ++ [(n, t ++ 10 :: q)]) := by
     simp [pstep, addLine]
   rw [this, ih (fun x hx => hps x (List.mem_cons_of_mem _ hx))]
   simp
theorem joinC_flat (p : Bs) (ps : List Bs) : joinC 10 (p :: ps) = p ++ ps.flatMap fun q => 10 :: q := by
 induction ps generalizing p with
 | nil => simp [joinC]
 | cons q ps ih => rw [joinC, ih]; simp
theorem fold_field {f : Fld} (h : FldOk f) (out : List (List Fld)) (at' : List Fld) : (linesF f).foldl pstep (some (out, at')) = some (out, at' ++ [f]) := by
 have hl := h.ls
 have hj := joinC_spl 10 f.2
 unfold linesF
 cases hs : spl 10 f.2 with
 | nil => exact absurd hs (spl_ne _ _)
 | cons p ps =>
   rw [hs] at hl hj
   simp only [linesB, Bool.and_eq_true, Bool.not_eq_true', decide_eq_false_iff_not, List.all_eq_true, decide_eq_true_eq] at hl
   obtain ⟨⟨h1, h2⟩, h3⟩ := hl
   obtain ⟨g1, g2⟩ := head_not h (58 :: headLine' p)
   simp only [List.foldl_cons]
   have : pstep (some (out, at')) (f.1 ++ 58 :: headLine' p) = some (out, at' ++ [(f.1, p)]) := by
     unfold pstep
     simp only []
     rw [if_neg g2, if_neg (fun g => g1 g.1), headF_line h p h1]
   rw [this, fold_tail ps (fun q hq => (h3 q hq).2), ← joinC_flat, hj]
theorem fold_stanza (st : List Fld) (h : ∀ f ∈ st, FldOk f) : ∀ (out : List (List Fld)) (at' : List Fld), (linesS st).foldl pstep (some (out, at')) = some (out, at' ++ st) := by
 induction st with
 | nil => intro out at'; simp [linesS]
 | cons f st ih =>
   intro out at'
   have e : linesS (f :: st) = linesF f ++ linesS st := by simp [linesS]
   rw [e, List.foldl_append, fold_field (h f (by simp)), ih (fun g hg => h g (List.mem_cons_of_mem _ hg))]
   simp
theorem fold_stanzas : ∀ (l : List (List Fld)), l ≠ [] → (∀ st ∈ l, ∀ f ∈ st, FldOk f) → ∀ out, ∃ a b, (linesSs l).foldl pstep (some (out, [])) = some (a, b) ∧ a ++ [b] = out ++ l
 | [], h, _, _ => absurd rfl h
 | [st], _, h, out => ⟨out, st, by rw [linesSs, fold_stanza st (h st (by simp))]; simp, rfl⟩
 | st :: st' :: l, _, h, out => by
   rw [linesSs, List.foldl_append, fold_stanza st (h st (by simp)), List.foldl_cons]
   have : pstep (some (out, [] ++ st)) [] = some (out ++ [st], []) := by simp [pstep]
   rw [this]
   obtain ⟨a, b, h1, h2⟩ := fold_stanzas (st' :: l) (by simp) (fun s hs => h s (List.mem_cons_of_mem _ hs)) (out ++ [st])
   exact ⟨a, b, h1, by rw [h2]; simp⟩
theorem stB_ok : ∀ (st : List Fld) (seen : List Bs), stB seen st = true → ∀ f ∈ st, FldOk f
 | [], _, _, f, hf => by cases hf
 | g :: st, seen, h, f, hf => by
   simp only [stB, Bool.and_eq_true] at h
   rcases List.mem_cons.1 hf with rfl | hf
   · exact field_ok h.1.2
   · exact stB_ok st _ h.2 f hf
theorem linesF_ne {f : Fld} (h : FldOk f) : linesF f ≠ [] ∧ ∀ p ∈ linesF f, (10 : UInt8) ∉ p := by
 unfold linesF
 have hc := spl_clean 10 f.2
 cases hs : spl 10 f.2 with
 | nil => exact absurd hs (spl_ne _ _)
 | cons p ps =>
   refine ⟨by simp, fun q hq => ?_⟩
   rw [hs] at hc
   rcases List.mem_cons.1 hq with rfl | hq
   · have h1 : (10 : UInt8) ∉ f.1 := nm_not h (by decide)
     have h2 := (hc p (by simp)).1
     have h3 : (10 : UInt8) ∉ headLine' p := by
       unfold headLine'; split
       · simp [h2]
       · exact h2
     simp [h1, h3]
   · obtain ⟨r, hr, rfl⟩ := List.mem_map.1 hq
     simp [(hc r (List.mem_cons_of_mem _ hr)).1]
theorem linesS_clean {st : List Fld} (h : ∀ f ∈ st, FldOk f) : ∀ p ∈ linesS st, (10 : UInt8) ∉ p := fun p hp => by
 obtain ⟨f, hf, hp⟩ := List.mem_flatMap.1 hp
 exact (linesF_ne (h f hf)).2 p hp
theorem linesSs_clean : ∀ {l : List (List Fld)}, (∀ st ∈ l, ∀ f ∈ st, FldOk f) → ∀ p ∈ linesSs l, (10 : UInt8) ∉ p
 | [], _, p, hp => by cases hp
 | [st], h, p, hp => linesS_clean (h st (by simp)) p hp
 | st :: st' :: l, h, p, hp => by
   rw [linesSs] at hp
   rcases List.mem_append.1 hp with hp | hp
   · exact linesS_clean (h st (by simp)) p hp
   · rcases List.mem_cons.1 hp with rfl | hp
     · simp
     · exact linesSs_clean (fun s hs => h s (List.mem_cons_of_mem _ hs)) p hp
theorem linesSs_ne {l : List (List Fld)} (hl : l ≠ []) (h : ∀ st ∈ l, st ≠ [] ∧ ∀ f ∈ st, FldOk f) : linesSs l ≠ [] := by
 match l, hl, h with
 | [st], _, h =>
   obtain ⟨h1, h2⟩ := h st (by simp)
   cases st with
   | nil => exact absurd rfl h1
   | cons f st =>
     have := (linesF_ne (h2 f (by simp))).1
     simp [linesSs, linesS, this]
 | st :: st' :: l, _, _ => simp [linesSs]
theorem print_ok {l : List (List Fld)} {s : Bs} (h : printE l = (s, 0)) : s = printSs l ∧ ∀ st ∈ l, st ≠ [] ∧ ∀ f ∈ st, FldOk f := by
 unfold printE at h
 split at h
 · simp at h
 · split at h
   · rename_i g
     simp only [Prod.mk.injEq, and_true] at h
     refine ⟨h.symm, fun st hst => ?_⟩
     have := List.all_eq_true.1 g st hst
     simp only [stanzaB, Bool.and_eq_true, decide_eq_true_eq] at this
     exact ⟨this.1, stB_ok st _ this.2⟩
   · simp at h
theorem print_parse {l : List (List Fld)} {s : Bs} (h : printE l = (s, 0)) : parseS s = some l := by
 obtain ⟨rfl, hok⟩ := print_ok h
 have hok' : ∀ st ∈ l, ∀ f ∈ st, FldOk f := fun st hst => (hok st hst).2
 unfold parseS
 have e1 : linesO (printSs l) = some (linesSs l) := by rw [printSs_lines]; exact lines_ended _ (linesSs_clean hok')
 have e2 : parseL (linesSs l) = some l := by
   unfold parseL
   by_cases hl : l = []
   · subst hl; rfl
   · obtain ⟨a, b, h1, h2⟩ := fold_stanzas l hl hok' []
     rw [h1]
     simp only []
     rw [if_neg (linesSs_ne hl hok), h2]; rfl
 rw [e1]; simp only []; rw [e2]; simp only []; rw [if_pos h]
end Go.Proofs.YtnnagboeimeiiaaGreatDoor
namespace Go.Proofs.YtnnagboeimeiiaaGreatDoor
open Go.RowKit
def SplTo (c : UInt8) (s : Bs) (k : Nat) (out : List Bs) (u : Bs) : Prop := spl c s = out ++ glue u (spl c (s.drop k))
theorem SplTo.start (c : UInt8) (s : Bs) : SplTo c s 0 [] [] := by unfold SplTo; rw [List.drop_zero, glue_nil (spl_ne _ _)]; rfl
theorem SplTo.cut {c : UInt8} {s : ByteArray} {k : Nat} {out : List Bs} {u : Bs} (h : SplTo c s.data.toList k out u) (hk : k < s.size) (e : s[k] = c) : SplTo c s.data.toList (k + 1) (out ++ [u]) [] := by
 unfold SplTo at *
 rw [h, spl_step c s k hk, if_pos e, glue_nil (spl_ne _ _)]
 simp [glue]
theorem SplTo.done {c : UInt8} {s : ByteArray} {out : List Bs} {u : Bs} (h : SplTo c s.data.toList s.size out u) : spl c s.data.toList = out ++ [u] := by
 unfold SplTo at h
 rw [h, dropAll]; simp [spl, glue]
end Go.Proofs.YtnnagboeimeiiaaGreatDoor
namespace Go.Proofs.YtnnagboeimeiiaaGreatDoor
open Go.RowKit
end Go.Proofs.YtnnagboeimeiiaaGreatDoor
namespace Go.Proofs.YtnnagboeimeiiaaGreatDoor
open Go.RowKit
theorem HoldT.cut {w : World} {a : Option Addr} {c n : Nat} {ls : List Bs} (h : HoldT w (.slice a n c) ls) (k : Nat) (hk : k ≤ n) : HoldT w (.slice a k c) (ls.take k) := by
 obtain ⟨a', c', b, o, e, hc, ha, hcell⟩ := h
 simp only [Value.slice.injEq] at e
 obtain ⟨rfl, rfl, rfl⟩ := e
 have hl : (ls.take k).length = k := by rw [List.length_take]; omega
 refine ⟨a, c, b, o, by rw [hl], by omega, fun h0 => ha (by omega), fun j l hj => ?_⟩
 rw [List.getElem?_take] at hj
 split at hj
 · exact hcell j l hj
 · cases hj
end Go.Proofs.YtnnagboeimeiiaaGreatDoor
