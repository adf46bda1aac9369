import Derived.Lib.AtoiTie
import Derived.Test.YtkbkaeefdhkgdaaGreatDoorGVParse
set_option maxRecDepth 100000
set_option maxHeartbeats 32000000
namespace Go.Proofs.YtkbkaeefdhkgdaaGreatDoor
section
open Go.RowKit
structure LaidV (w : World) : Prop where
 pow : Lib.TabIs Tryz.prog w "internal/strconv.uint64pow10" .u64 Lib.pow10Tab
 syn : ∃ tp p, w.var? Tryz.prog "strconv.ErrSyntax" = some #[.iface tp p]
 rng : ∃ tp p, w.var? Tryz.prog "strconv.ErrRange" = some #[.iface tp p]
 size : 8 ≤ w.heap.size
theorem gPow : Tryz.prog.globalNamed "internal/strconv.uint64pow10" = some 6 := by kernel_rfl
theorem gSyn : Tryz.prog.globalNamed "strconv.ErrSyntax" = some 4 := by kernel_rfl
theorem gRng : Tryz.prog.globalNamed "strconv.ErrRange" = some 5 := by kernel_rfl
theorem LaidV.on {w w' : World} (h : LaidV w) (hb : Below w.heap.size w w') : LaidV w' where
 pow := by
  have := h.pow
  unfold Lib.TabIs at this ⊢
  exact var?_below hb gPow (by have := h.size; omega) this
 syn := by obtain ⟨tp, p, hv⟩ := h.syn; exact ⟨tp, p, var?_below hb gSyn (by have := h.size; omega) hv⟩
 rng := by obtain ⟨tp, p, hv⟩ := h.rng; exact ⟨tp, p, var?_below hb gRng (by have := h.size; omega) hv⟩
 size := Nat.le_trans h.size hb.size
theorem LaidV.al {w : World} (h : Hid (LaidV w)) (o : Obj) : LaidV (w.alloc o) := h.out.on ((Below.refl _ _).alloc (Nat.le_refl _) o)
theorem LaidV.dr {w : World} (h : Hid (LaidV w)) (q : Nat) : LaidV (w.drewN q) := h.out.on (belowQ (Below.refl _ _) q)
-- strings.Cut at one byte
theorem idx_first (l : Bs) (c : UInt8) : Lib.indexByte l c = firstI c l := by
 induction l with
 | nil => rfl
 | cons b l ih =>
  unfold Lib.indexByte
  by_cases h : b = c
  ·
   subst h
   rw [if_pos (by simp)]
   unfold firstI
   rw [if_pos (by simp)]; simp
  ·
   rw [if_neg (by simpa using h), ih]
   have hm : c ∈ b :: l ↔ c ∈ l := by
    rw [List.mem_cons]
    exact ⟨fun g => g.elim (fun e => absurd e.symm h) id, .inr⟩
   unfold firstI
   by_cases g : c ∈ l
   ·
    rw [if_pos g, if_pos (hm.2 g), List.takeWhile_cons, if_pos (decide_eq_true h), List.length_cons]
    rw [if_neg (by rw [beq_iff_eq]; omega)]
    omega
   ·
    rw [if_neg g, if_neg (fun x => g (hm.1 x)), if_pos (by simp)]
def Cut1Post (s : ByteArray) (c : UInt8) (w : World) (e : Ending) (w' : World) : Prop :=
 (∃ q, w' = w.drewN q) ∧ ((firstI c s.data.toList = -1 ∧ e = .returned (.tuple #[.string s, .string ⟨#[]⟩, .bool false])) ∨
  ∃ k : Nat, firstI c s.data.toList = k ∧ k < s.size ∧ e = .returned (.tuple #[.string (s.extract 0 k), .string (s.extract (k + 1) s.size), .bool true]))
theorem first_cases (s : ByteArray) (c : UInt8) : firstI c s.data.toList = -1 ∨ ∃ k : Nat, firstI c s.data.toList = k ∧ k < s.size := by
 have h := firstI_ge (c := c) (l := s.data.toList)
 have hl := sizeOf s
 by_cases h0 : firstI c s.data.toList = -1
 ·
  exact .inl h0
 ·
  right
  refine ⟨(firstI c s.data.toList).toNat, ?_, ?_⟩ <;> rcases h with ⟨h, h'⟩ | ⟨h, h'⟩ <;> omega
theorem cut1_in (s : ByteArray) (hs : s.size ≤ 100000) (c : UInt8) (w : World) : Calls Tryz.prog 154 #[.string s, .string ⟨#[c]⟩] w (Cut1Post s c w) := by
 have C := fun w => Tryz.stringslite_Index_one s c w
 rw [idx_first] at C
 have h1s : (ByteArray.mk #[c]).size = 1 := rfl
 rcases first_cases s c with h | ⟨k, h, hk⟩
 ·
  have HP : Hid (∀ q e, e = .returned (.tuple #[.string s, .string ⟨#[]⟩, .bool false]) → Cut1Post s c w e (w.drewN q)) := Lib.hid (fun q e he => ⟨⟨q, rfl⟩, .inl ⟨h, he⟩⟩)
  rw [h] at C
  clear h
  go_enter Tryz.func154, Tryz.ntmps154
  go_wp2_with (go_at_call 182; refine (C _).mono ?_; rintro e w1 ⟨rfl, hw⟩; subst hw)
  go_ret3
  exact HP.out 0 _ rfl
 ·
  have HP : Hid (∀ q e, e = .returned (.tuple #[.string (s.extract 0 k), .string (s.extract (k + 1) s.size), .bool true]) → Cut1Post s c w e (w.drewN q)) := Lib.hid (fun q e he => ⟨⟨q, rfl⟩, .inr ⟨k, h, hk, he⟩⟩)
  rw [h] at C
  clear h
  go_enter Tryz.func154, Tryz.ntmps154
  go_wp2_with (go_at_call 182; refine (C _).mono ?_; rintro e w1 ⟨rfl, hw⟩; subst hw)
  go_region
  go_wp2
  go_ret3
  exact HP.out 1 _ rfl
theorem cut1_any (s : ByteArray) (hs : s.size ≤ 100000) (c : UInt8) (w : World) : Calls Tryz.prog 123 #[.string s, .string ⟨#[c]⟩] w (Cut1Post s c w) := by
 have C := cut1_in s hs c w
 rcases first_cases s c with h | ⟨k, h, hk⟩
 ·
  have C' : Calls Tryz.prog 154 #[.string s, .string ⟨#[c]⟩] w fun e w' => e = .returned (.tuple #[.string s, .string ⟨#[]⟩, .bool false]) ∧ ∃ q, w' = w.drewN q := C.mono fun e w' hp => by
   obtain ⟨hq, ⟨_, he⟩ | ⟨j, hj, _⟩⟩ := hp
   ·
    exact ⟨he, hq⟩
   ·
    omega
  have HP : Hid (∀ q e, e = .returned (.tuple #[.string s, .string ⟨#[]⟩, .bool false]) → Cut1Post s c w e (w.drewN q)) := Lib.hid (fun q e he => ⟨⟨q, rfl⟩, .inl ⟨h, he⟩⟩)
  clear h C
  go_enter Tryz.func123, Tryz.ntmps123
  go_wp2_with (go_at_call 154; refine C'.mono ?_; rintro e w1 ⟨rfl, q, rfl⟩)
  go_ret3
  exact HP.out q _ rfl
 ·
  have C' : Calls Tryz.prog 154 #[.string s, .string ⟨#[c]⟩] w fun e w' => e = .returned (.tuple #[.string (s.extract 0 k), .string (s.extract (k + 1) s.size), .bool true]) ∧ ∃ q, w' = w.drewN q := C.mono fun e w' hp => by
   obtain ⟨hq, ⟨h', _⟩ | ⟨j, hj, _, he⟩⟩ := hp
   ·
    omega
   ·
    obtain rfl : j = k := by omega
    exact ⟨he, hq⟩
  have HP : Hid (∀ q e, e = .returned (.tuple #[.string (s.extract 0 k), .string (s.extract (k + 1) s.size), .bool true]) → Cut1Post s c w e (w.drewN q)) := Lib.hid (fun q e he => ⟨⟨q, rfl⟩, .inr ⟨k, h, hk, he⟩⟩)
  clear h C
  go_enter Tryz.func123, Tryz.ntmps123
  go_wp2_with (go_at_call 154; refine C'.mono ?_; rintro e w1 ⟨rfl, q, rfl⟩)
  go_ret3
  exact HP.out q _ rfl
-- Numbers
theorem decFrom_yes : ∀ (l : Bs) (acc : Nat), l.all dgB = true → ∃ n : Nat, Lib.decFrom acc l = some n ∧ (n : Int) = l.foldl (fun n c => 10 * n + (c.toNat : Int) - 48) (acc : Int)
 | [], acc, _ => ⟨acc, rfl, rfl⟩
 | c :: l, acc, h => by
  rw [List.all_cons, Bool.and_eq_true] at h
  have hd := h.1
  simp only [dgB, Bool.and_eq_true, decide_eq_true_eq] at hd
  obtain ⟨n, h1, h2⟩ := decFrom_yes l (acc * 10 + (c.toNat - 48)) h.2
  refine ⟨n, ?_, ?_⟩
  ·
   unfold Lib.decFrom Lib.digitVal
   rw [if_pos hd]; exact h1
  ·
   rw [h2, List.foldl_cons]; congr 1; omega
theorem decFrom_no : ∀ (l : Bs) (acc : Nat), l.all dgB = false → Lib.decFrom acc l = none
 | [], acc, h => by cases h
 | c :: l, acc, h => by
  unfold Lib.decFrom Lib.digitVal
  by_cases hd : 48 ≤ c.toNat ∧ c.toNat ≤ 57
  ·
   rw [if_pos hd]
   refine decFrom_no l _ ?_
   rw [List.all_cons] at h
   have : dgB c = true := by simp only [dgB, Bool.and_eq_true, decide_eq_true_eq]; exact hd
   rw [this, Bool.true_and] at h; exact h
  ·
   rw [if_neg hd]
theorem uintB_short (l : Bs) (hl : l.length ≤ 18) : Lib.parseUintB 64 l = Lib.NumEnd.ofOption (Lib.decNat l) := by
 have eM : (2 : Nat) ^ 64 - 1 = 18446744073709551615 := by decide
 rw [← Lib.parseMag_short l hl]
 unfold Lib.parseUintB Lib.parseMag
 rw [eM, Lib.parseUintM_64]
def epochP (l : Bs) : Int × Int := if l ≠ [] ∧ l.length ≤ 9 ∧ l.all dgB = true then (epochOf l, 0) else (0, 2)
theorem epochP_yes {l : Bs} (h : l ≠ [] ∧ l.length ≤ 9 ∧ l.all dgB = true) : epochP l = (epochOf l, 0) := if_pos h
theorem epochP_no {l : Bs} (h : ¬ (l ≠ [] ∧ l.length ≤ 9 ∧ l.all dgB = true)) : epochP l = (0, 2) := if_neg h
theorem epoch_lt {l : Bs} (h : l.length ≤ 9) (ha : l.all dgB = true) : 0 ≤ epochOf l ∧ epochOf l < 1000000000 := by
 have h1 := epoch_bd l ha
 have h2 : (10 : Int) ^ l.length ≤ 10 ^ 9 := by exact_mod_cast Nat.pow_le_pow_right (n := 10) (by decide) h
 have e : (10 : Int) ^ 9 = 1000000000 := by decide
 omega
theorem uint_ok {l : Bs} {n : Nat} (h : Lib.parseUintB 64 l = .ok n) (hl : l.length ≤ 9) : l ≠ [] ∧ l.all dgB = true ∧ (n : Int) = epochOf l := by
 rw [uintB_short l (by omega)] at h
 unfold Lib.decNat at h
 cases l with
 | nil => cases h
 | cons c t =>
  rw [if_neg (by simp)] at h
  cases ha : (c :: t).all dgB
  ·
   rw [decFrom_no _ _ ha] at h; cases h
  ·
   obtain ⟨m, h1, h2⟩ := decFrom_yes (c :: t) 0 ha
   rw [h1] at h
   cases h
   exact ⟨by simp, rfl, h2⟩
theorem uint_bad {l : Bs} (h : ∀ n, Lib.parseUintB 64 l ≠ .ok n) : ¬ (l ≠ [] ∧ l.length ≤ 9 ∧ l.all dgB = true) := by
 rintro ⟨h1, h2, h3⟩
 obtain ⟨n, g1, _⟩ := decFrom_yes l 0 h3
 refine h n ?_
 rw [uintB_short l (by omega)]
 unfold Lib.decNat
 rw [if_neg (by cases l <;> simp at h1 ⊢), g1]; rfl
theorem syn_cell {w : World} (h : LaidV w) : ∃ tp p, w.cell? ⟨4, 0, none⟩ = some (.iface tp p) := by
 obtain ⟨tp, p, hv⟩ := h.syn
 exact ⟨tp, p, by have h0 := World.var?_cell gSyn hv 0; simpa using h0⟩
theorem rng_cell {w : World} (h : LaidV w) : ∃ tp p, w.cell? ⟨5, 0, none⟩ = some (.iface tp p) := by
 obtain ⟨tp, p, hv⟩ := h.rng
 exact ⟨tp, p, by have h0 := World.var?_cell gRng hv 0; simpa using h0⟩
def UintPost (l : Bs) (w : World) (e : Ending) (w' : World) : Prop :=
 Below w.heap.size w w' ∧ ((∃ n : Nat, (l.length ≤ 9 → l ≠ [] ∧ l.all dgB = true ∧ (n : Int) = epochOf l) ∧ e = .returned (.tuple #[.int .u64 n, .nilIface])) ∨
  (¬ (l ≠ [] ∧ l.length ≤ 9 ∧ l.all dgB = true)) ∧ ∃ (z : Int) (T : TypeId) (p : Value), e = .returned (.tuple #[.int .u64 z, .iface T p]))
theorem fin {w W w1 : World} (h : Below w.heap.size w W) (hb : Below W.heap.size W w1) : Below w.heap.size w w1 := h.trans (hb.mono h.size)
theorem uint_any (s : ByteArray) (hs : s.size ≤ 100000) (w : World) (h : LaidV w) : Calls Tryz.prog 164 #[.string s, .int .i64 10, .int .i64 64] w (UintPost s.data.toList w) := by
 have C : Calls Tryz.prog 183 #[.string s, .int .i64 10, .int .i64 64] w fun e w' => e = .returned (Lib.uintTupleM 203 18446744073709551615 (Lib.parseUintB 64 s.data.toList)) ∧ Below w.heap.size w w' :=
  (Tryz.internal_strconv_ParseUint_10_at64 s (by omega) w).mono fun e w' he => ⟨he.1, by rcases he.2 with rfl | rfl; exact Below.refl _ _; exact Lib.bytesWorld_below w _ s⟩
 have HL := Lib.hid h
 have hz : s.size ≤ 281474976710656 := by omega
 have HZ := Lib.hid hz
 clear h hz hs
 rcases g : Lib.parseUintB 64 s.data.toList with n | _ | _
 ·
  rw [g] at C
  have HP : Hid (∀ w' e, Below w.heap.size w w' → e = .returned (.tuple #[.int .u64 n, .nilIface]) → UintPost s.data.toList w e w') := Lib.hid (fun w' e hb he => ⟨hb, .inl ⟨n, uint_ok g, he⟩⟩)
  have C' : Calls Tryz.prog 183 #[.string s, .int .i64 10, .int .i64 64] w fun e w' => e = .returned (.tuple #[.int .u64 n, .nilIface]) ∧ Below w.heap.size w w' := C
  clear g C
  go_enter Tryz.func164, Tryz.ntmps164
  go_wp2_with (go_at_call 183; refine C'.mono ?_; rintro e w1 ⟨rfl, hb⟩; have HB := Lib.hid hb; clear hb)
  go_ret2
  exact HP.out _ _ HB.out rfl
 ·
  rw [g] at C
  have HP : Hid (∀ (T : TypeId) (p : Value) w' e, Below w.heap.size w w' → e = .returned (.tuple #[.int .u64 0, .iface T p]) → UintPost s.data.toList w e w') := Lib.hid (fun T p w' e hb he => ⟨hb, .inr ⟨uint_bad (fun n h => by rw [g] at h; cases h), _, T, p, he⟩⟩)
  have C' : Calls Tryz.prog 183 #[.string s, .int .i64 10, .int .i64 64] w fun e w' => e = .returned (.tuple #[.int .u64 0, .iface 203 (.int .i64 2)]) ∧ Below w.heap.size w w' := C
  clear g C
  go_enter Tryz.func164, Tryz.ntmps164
  go_wp2_with (go_at_call 183; refine C'.mono ?_; rintro e w1 ⟨rfl, hb⟩; refine Hid.out ?_)
  obtain ⟨tp, p, hc⟩ := syn_cell (HL.out.on hb)
  have HT := fun fn => Any.strconv_toError_syntax Tryz.laysC245 fn s 10 64 (.iface tp p) w1 HZ.out hc (Or.inr ⟨_, _, rfl⟩)
  have HB := Lib.hid hb
  clear hb hc
  refine Lib.hid ?_
  go_wp2_with (go_at_call 184; refine (HT _).mono ?_; rintro e w2 ⟨N, rfl, _, _, hb2⟩; have HB2 := Lib.hid hb2; clear hb2)
  go_ret2
  exact HP.out _ _ _ _ (fin HB.out HB2.out) rfl
 ·
  rw [g] at C
  have HP : Hid (∀ (T : TypeId) (p : Value) w' e, Below w.heap.size w w' → e = .returned (.tuple #[.int .u64 18446744073709551615, .iface T p]) → UintPost s.data.toList w e w') := Lib.hid (fun T p w' e hb he => ⟨hb, .inr ⟨uint_bad (fun n h => by rw [g] at h; cases h), _, T, p, he⟩⟩)
  have C' : Calls Tryz.prog 183 #[.string s, .int .i64 10, .int .i64 64] w fun e w' => e = .returned (.tuple #[.int .u64 18446744073709551615, .iface 203 (.int .i64 1)]) ∧ Below w.heap.size w w' := C
  clear g C
  go_enter Tryz.func164, Tryz.ntmps164
  go_wp2_with (go_at_call 183; refine C'.mono ?_; rintro e w1 ⟨rfl, hb⟩; refine Hid.out ?_)
  obtain ⟨tp, p, hc⟩ := rng_cell (HL.out.on hb)
  have HT := fun fn => Any.strconv_toError_range Tryz.laysC245 fn s 10 64 (.iface tp p) w1 HZ.out hc (Or.inr ⟨_, _, rfl⟩)
  have HB := Lib.hid hb
  clear hb hc
  refine Lib.hid ?_
  go_wp2_with (go_at_call 184; refine (HT _).mono ?_; rintro e w2 ⟨N, rfl, _, _, hb2⟩; have HB2 := Lib.hid hb2; clear hb2)
  go_ret2
  exact HP.out _ _ _ _ (fin HB.out HB2.out) rfl
def EpochPost (l : Bs) (w : World) (e : Ending) (w' : World) : Prop := e = .returned (.tuple #[.int .i64 (epochP l).1, .int .i64 (epochP l).2]) ∧ Below w.heap.size w w'
theorem epoch_any (s : ByteArray) (hs : s.size ≤ 100000) (w : World) (h : LaidV w) : Calls Tryz.prog 135 #[.string s] w (EpochPost s.data.toList w) := by
 have C := uint_any s hs w h
 have hl := sizeOf s
 refine Calls.mono (R := fun e w' => EpochPost s.data.toList w e w') ?_ (fun _ _ h => h)
 by_cases hy : s.data.toList ≠ [] ∧ s.data.toList.length ≤ 9 ∧ s.data.toList.all dgB = true
 ·
  have C' : Calls Tryz.prog 164 #[.string s, .int .i64 10, .int .i64 64] w fun e w' => e = .returned (.tuple #[.int .u64 (epochOf s.data.toList), .nilIface]) ∧ Below w.heap.size w w' := C.mono fun e w' hp => by
   obtain ⟨hb, ⟨n, hn, he⟩ | ⟨hn, _⟩⟩ := hp
   ·
    rw [← (hn hy.2.1).2.2]; exact ⟨he, hb⟩
   ·
    exact absurd hy hn
  have hp := epochP_yes hy
  have hb := epoch_lt hy.2.1 hy.2.2
  have HP : Hid (∀ w' e, Below w.heap.size w w' → e = .returned (.tuple #[.int .i64 (epochOf s.data.toList), .int .i64 0]) → EpochPost s.data.toList w e w') := Lib.hid (fun w' e hb he => ⟨by rw [he, hp], hb⟩)
  have h9 : s.size ≤ 9 := by rw [hl]; exact hy.2.1
  obtain ⟨hb1, hb2⟩ := hb
  generalize epochOf s.data.toList = z at *
  clear hy hp hl C h
  go_enter Tryz.func135, Tryz.ntmps135
  go_wp2_with (go_at_call 164; refine C'.mono ?_; rintro e w1 ⟨rfl, hb⟩; have HB := Lib.hid hb; clear hb)
  go_ret2
  exact HP.out _ _ HB.out rfl
 ·
  have hp := epochP_no hy
  have HP : Hid (∀ w' e, Below w.heap.size w w' → e = .returned (.tuple #[.int .i64 0, .int .i64 2]) → EpochPost s.data.toList w e w') := Lib.hid (fun w' e hb he => ⟨by rw [he, hp], hb⟩)
  by_cases h9 : s.size ≤ 9
  ·
   have C' : Calls Tryz.prog 164 #[.string s, .int .i64 10, .int .i64 64] w fun e w' => ∃ (z : Int) (T : TypeId) (p : Value), e = .returned (.tuple #[.int .u64 z, .iface T p]) ∧ Below w.heap.size w w' := C.mono fun e w' hp => by
    obtain ⟨hb, ⟨n, hn, he⟩ | ⟨_, z, T, p, he⟩⟩ := hp
    ·
     have := hn (by omega)
     exact absurd ⟨this.1, by omega, this.2.1⟩ hy
    ·
     exact ⟨z, T, p, he, hb⟩
   clear hy hp hl C h
   go_enter Tryz.func135, Tryz.ntmps135
   go_wp2_with (go_at_call 164; refine C'.mono ?_; rintro e w1 ⟨z, T, p, rfl, hb⟩; have HB := Lib.hid hb; clear hb)
   go_ret2
   exact HP.out _ _ HB.out rfl
  ·
   have C' : Calls Tryz.prog 164 #[.string s, .int .i64 10, .int .i64 64] w fun e w' => ∃ (z : Int) (v : Value), e = .returned (.tuple #[.int .u64 z, v]) ∧ (v = .nilIface ∨ ∃ T p, v = .iface T p) ∧ Below w.heap.size w w' := C.mono fun e w' hp => by
    obtain ⟨hb, ⟨n, hn, he⟩ | ⟨_, z, T, p, he⟩⟩ := hp
    ·
     exact ⟨_, _, he, .inl rfl, hb⟩
    ·
     exact ⟨_, _, he, .inr ⟨T, p, rfl⟩, hb⟩
   have h9' : 9 < s.size := by omega
   clear hy hp hl C h h9
   go_enter Tryz.func135, Tryz.ntmps135
   go_wp2_with (go_at_call 164; refine C'.mono ?_; rintro e w1 ⟨z, v, rfl, (rfl | ⟨T, p, rfl⟩), hb⟩ <;> (have HB := Lib.hid hb; clear hb))
   all_goals
    go_ret2
    exact HP.out _ _ HB.out rfl
end
section
open Go.RowKit
abbrev m5 : Bs := [46, 43, 45, 126, 58]
theorem verOf_two (l : Bs) : (firstI 58 l = -1 ∧ verOf l = restV 0 m5 l) ∨ ∃ k : Nat, firstI 58 l = k ∧ k < l.length ∧ ((epochP (l.take k)).2 = 0 → verOf l = restV (epochP (l.take k)).1 m5 (l.drop (k + 1))) ∧ ((epochP (l.take k)).2 ≠ 0 → verOf l = none) := by
 rcases verOf_ways l with ⟨h, hv⟩ | ⟨k, h, hk, hbad, hgood⟩
 ·
  left
  refine ⟨h, ?_⟩
  rw [hv, restV_plain (firstI_neg.1 (by omega))]
 ·
  right
  have hlen : (l.take k).length = k := by rw [List.length_take]; omega
  refine ⟨k, h, hk, ?_⟩
  by_cases hy : l.take k ≠ [] ∧ (l.take k).length ≤ 9 ∧ (l.take k).all dgB = true
  ·
   have hk1 : 1 ≤ k := by
    have := List.length_pos_iff.2 hy.1
    omega
   rw [epochP_yes hy]
   exact ⟨fun _ => (hgood hk1 (by rw [hlen] at hy; exact hy.2.1)).1 hy.2.2, fun g => absurd rfl g⟩
  ·
   rw [epochP_no hy]
   refine ⟨fun g => absurd g (by decide), fun _ => ?_⟩
   by_cases hb : k < 1 ∨ 9 < k
   ·
    exact hbad hb
   ·
    refine (hgood (by omega) (by omega)).2 ?_
    cases ha : (l.take k).all dgB
    ·
     rfl
    ·
     exact absurd ⟨fun e => by rw [e] at hlen; simp at hlen; omega, by omega, ha⟩ hy
theorem occ_one (l : Bs) (c : UInt8) (k : Nat) (hk : k < l.length) : Lib.occAt l [c] k = (c == l[k]) := by
 unfold Lib.occAt
 rw [List.drop_eq_getElem_cons hk]
 simp [List.isPrefixOf]
theorem last_to (l : Bs) (c : UInt8) : ∀ k : Nat, k ≤ l.length → Lib.lastOcc l [c] k = lastI c (l.take k)
 | 0, _ => by simp [Lib.lastOcc, lastI]
 | k + 1, hk => by
  have ih := last_to l c k (by omega)
  have e : l.take (k + 1) = l.take k ++ [l[k]'(by omega)] := by rw [List.take_add_one, List.getElem?_eq_getElem (by omega)]; rfl
  have hlen : (l.take k).length = k := by rw [List.length_take]; omega
  rw [e, lastI_snoc]
  have ho := occ_one l c k (by omega)
  by_cases h : l[k]'(by omega) = c
  ·
   rw [if_pos h, Lib.lastOcc_hit _ _ _ (by rw [ho, h]; simp), hlen]
  ·
   rw [if_neg h, Lib.lastOcc_miss _ _ _ (by rw [ho]; simpa using fun g => h g.symm), ih]
theorem last_is (l : Bs) (c : UInt8) : Lib.lastIndex l [c] = lastI c l := by
 unfold Lib.lastIndex
 by_cases h : [c].length ≤ l.length
 ·
  rw [if_pos h]
  have : l.length - [c].length + 1 = l.length := by simp at h ⊢; omega
  rw [this, last_to l c _ (Nat.le_refl _), List.take_length]
 ·
  rw [if_neg h]
  have : l = [] := List.eq_nil_of_length_eq_zero (by simp at h; simp [h])
  subst this; rfl
theorem last_any (s : ByteArray) (hs : s.size ≤ 100000) (c : UInt8) (w : World) : Calls Tryz.prog 136 #[.string s, .string ⟨#[c]⟩] w fun e w' => e = .returned (.int .i64 (lastI c s.data.toList)) ∧ w = w' :=
 (Tryz.strings_LastIndex s ⟨#[c]⟩ (by omega) w).mono fun _ _ h => ⟨by rw [h.1]; exact congrArg (fun z => Ending.returned (.int .i64 z)) (last_is _ c), h.2.symm⟩
structure BoxV (w : World) (b : Nat) (z : Int) (u v : ByteArray) : Prop where
 c0 : w.cell? ⟨b, 0, none⟩ = some (.int .i64 z)
 c1 : w.cell? ⟨b, 1, none⟩ = some (.string u)
 c2 : w.cell? ⟨b, 2, none⟩ = some (.string v)
 f : ∀ i, w.frozen? ⟨b, i, none⟩ = false
theorem BoxV.new (A : World) (z : Int) (u v : ByteArray) (t : TypeId) : BoxV (A.alloc (.cells #[.int .i64 z, .string u, .string v] t)) A.heap.size z u v :=
 ⟨by simp [World.cell?_alloc_new], by simp [World.cell?_alloc_new], by simp [World.cell?_alloc_new], fun i => frozen_of_row _ A.heap.size i _ t (heap_alloc_new A _)⟩
theorem BoxV.on {A B : World} {b : Nat} {z : Int} {u v : ByteArray} (h : BoxV A b z u v) (hb : Below A.heap.size A B) : BoxV B b z u v := by
 have hlt := World.block_lt_of_cell? A _ h.c0
 have k := fun o => hb.cell (p := ⟨b, o, none⟩) hlt
 exact ⟨by rw [k]; exact h.c0, by rw [k]; exact h.c1, by rw [k]; exact h.c2, fun i => by rw [hb.frozen (p := ⟨b, i, none⟩) hlt]; exact h.f i⟩
theorem BoxV.al {A : World} {b : Nat} {z : Int} {u v : ByteArray} (h : BoxV A b z u v) (o : Obj) : BoxV (A.alloc o) b z u v := h.on ((Below.refl _ _).alloc (Nat.le_refl _) o)
theorem BoxV.dr {A : World} {b : Nat} {z : Int} {u v : ByteArray} (h : BoxV A b z u v) (q : Nat) : BoxV (A.drewN q) b z u v := h.on (belowQ (Below.refl _ _) q)
theorem setO (A : World) (b i j : Nat) (u : Value) (h : i ≠ j) : (A.setCell ⟨b, i, none⟩ u).cell? ⟨b, j, none⟩ = A.cell? ⟨b, j, none⟩ := World.cell?_setCell_other _ _ _ _ (fun e => h (congrArg Addr.off e))
theorem setB (A : World) (b b' i j : Nat) (u : Value) (h : b' ≠ b) : (A.setCell ⟨b', i, none⟩ u).cell? ⟨b, j, none⟩ = A.cell? ⟨b, j, none⟩ := World.cell?_setCell_other _ _ _ _ (fun e => h (congrArg Addr.block e))
theorem BoxV.set0 {A : World} {b : Nat} {z : Int} {u v : ByteArray} (h : BoxV A b z u v) (z' : Int) : BoxV (A.setCell ⟨b, 0, none⟩ (.int .i64 z')) b z' u v :=
 ⟨World.cell?_setCell_same _ _ _ h.c0, by rw [setO _ _ _ _ _ (by omega)]; exact h.c1, by rw [setO _ _ _ _ _ (by omega)]; exact h.c2, fun i => by rw [World.frozen?_setCell]; exact h.f i⟩
theorem BoxV.set1 {A : World} {b : Nat} {z : Int} {u v : ByteArray} (h : BoxV A b z u v) (u' : ByteArray) : BoxV (A.setCell ⟨b, 1, none⟩ (.string u')) b z u' v :=
 ⟨by rw [setO _ _ _ _ _ (by omega)]; exact h.c0, World.cell?_setCell_same _ _ _ h.c1, by rw [setO _ _ _ _ _ (by omega)]; exact h.c2, fun i => by rw [World.frozen?_setCell]; exact h.f i⟩
theorem BoxV.set2 {A : World} {b : Nat} {z : Int} {u v : ByteArray} (h : BoxV A b z u v) (v' : ByteArray) : BoxV (A.setCell ⟨b, 2, none⟩ (.string v')) b z u v' :=
 ⟨by rw [setO _ _ _ _ _ (by omega)]; exact h.c0, by rw [setO _ _ _ _ _ (by omega)]; exact h.c1, World.cell?_setCell_same _ _ _ h.c2, fun i => by rw [World.frozen?_setCell]; exact h.f i⟩
theorem BoxV.setX {A : World} {b : Nat} {z : Int} {u v : ByteArray} (h : BoxV A b z u v) {b' : Nat} (hb : b' ≠ b) (i : Nat) (x : Value) : BoxV (A.setCell ⟨b', i, none⟩ x) b z u v :=
 ⟨by rw [setB _ _ _ _ _ _ hb]; exact h.c0, by rw [setB _ _ _ _ _ _ hb]; exact h.c1, by rw [setB _ _ _ _ _ _ hb]; exact h.c2, fun i => by rw [World.frozen?_setCell]; exact h.f i⟩
abbrev putV (w : World) (b : Nat) (z : Int) (u v : ByteArray) : World := ((w.setCell ⟨b, 0, none⟩ (.int .i64 z)).setCell ⟨b, 1, none⟩ (.string u)).setCell ⟨b, 2, none⟩ (.string v)
theorem BoxV.put {w : World} {b : Nat} {z : Int} {u v : ByteArray} (h : BoxV w b z u v) (z' : Int) (u' v' : ByteArray) : BoxV (putV w b z' u' v') b z' u' v' := ((h.set0 z').set1 u').set2 v'
theorem putV_below {B : Nat} {w0 w : World} {b : Nat} (h : Below B w0 w) (hb : B ≤ b) (z : Int) (x y : ByteArray) : Below B w0 (putV w b z x y) := ((h.setCell (p := ⟨b, 0, none⟩) hb _).setCell (p := ⟨b, 1, none⟩) hb _).setCell (p := ⟨b, 2, none⟩) hb _
def CutIs (s : ByteArray) (c : UInt8) (A B : ByteArray) (ok : Bool) : Prop :=
 (ok = false ∧ firstI c s.data.toList = -1 ∧ A = s ∧ B = ⟨#[]⟩) ∨ (ok = true ∧ ∃ k : Nat, firstI c s.data.toList = k ∧ k < s.size ∧ A = s.extract 0 k ∧ B = s.extract (k + 1) s.size)
theorem cut2_any (s : ByteArray) (hs : s.size ≤ 100000) (c : UInt8) (w : World) : Calls Tryz.prog 123 #[.string s, .string ⟨#[c]⟩] w fun e w' => ∃ (A B : ByteArray) (ok : Bool), e = .returned (.tuple #[.string A, .string B, .bool ok]) ∧ Hid (CutIs s c A B ok) ∧ ∃ q, w' = w.drewN q :=
 (cut1_any s hs c w).mono fun e w' hp => by
  obtain ⟨hq, ⟨h, he⟩ | ⟨k, h, hk, he⟩⟩ := hp
  ·
   exact ⟨_, _, _, he, Lib.hid (.inl ⟨rfl, h, rfl, rfl⟩), hq⟩
  ·
   exact ⟨_, _, _, he, Lib.hid (.inr ⟨rfl, k, h, hk, rfl, rfl⟩), hq⟩
theorem parse_any (s : ByteArray) (hs : s.size ≤ 4000) (w : World) (h : LaidV w) : Calls Tryz.prog 101 #[.string s] w (ParsePost s.data.toList w) := by
 have hl := sizeOf s
 by_cases h80 : 80 < s.size
 ·
  have HP : Hid (∀ e w', e = .returned (.tuple #[.agg #[.int .i64 0, .string ⟨#[]⟩, .string ⟨#[]⟩], .int .i64 8]) → Below w.heap.size w w' → ParsePost s.data.toList w e w') := Lib.hid (fun e w' h g => ⟨by rw [parseV_long (by omega)]; exact h, g⟩)
  clear hl h
  go_enter Tryz.func101, Tryz.ntmps101
  go_wp2
  exact bodyPost_ret (v := .tuple #[.agg #[.int .i64 0, .string ⟨#[]⟩, .string ⟨#[]⟩], .int .i64 8]) (by simp [results, Tryz.results101, go_sem]) rfl (HP.out _ _ rfl ((Below.refl _ _).alloc (Nat.le_refl _) _))
 ·
  have C58 := fun w => cut2_any s (by omega) 58 w
  have C4 := fun (x : ByteArray) (hx : x.size ≤ 4000) w => last_any x (by omega) 45 w
  have HL := Lib.hid h
  have HW := Lib.hid (verOf_two s.data.toList)
  have HV : Hid (∀ (l : ByteArray) (e : Int) (o : Option Ver), AtTail s l ⟨#[46, 43, 45, 126, 58]⟩ e → restV e m5 l.data.toList = o → parseV s.data.toList = parsedV o) := Lib.hid (fun l e o h1 h2 => verOf_parse (by omega) h1 h2)
  have HN : Hid (verOf s.data.toList = none → ∀ e w', e = .returned (.tuple #[.agg #[.int .i64 0, .string ⟨#[]⟩, .string ⟨#[]⟩], .int .i64 2]) → Below w.heap.size w w' → ParsePost s.data.toList w e w') := Lib.hid (fun hv e w' h g => ⟨by rw [parseV_none (by omega) hv]; exact h, g⟩)
  clear hl h
  go_enter Tryz.func101, Tryz.ntmps101
  go_upto_if 23 with (first | (go_at_call 123; refine (C58 _).mono ?_; rintro e w1 ⟨A, B, ok, rfl, HC, q, rfl⟩))
  go_cut [] (fun wx => ∃ (l : ByteArray) (e : Int), l.size ≤ 4000 ∧ Hid (AtTail s l ⟨#[46, 43, 45, 126, 58]⟩ e) ∧ BoxV wx (w.heap.size + 1) e l ⟨#[48]⟩ ∧ BoxV wx w.heap.size 0 ⟨#[]⟩ ⟨#[]⟩ ∧ Hid (Below w.heap.size w wx))
  case first =>
   clear C58 C4
   obtain ⟨W0, hW0⟩ : ∃ W0 : World, Hid (W0 = (w.alloc (.cells #[.int .i64 0, .string ⟨#[]⟩, .string ⟨#[]⟩] 100)).alloc (.cells #[.int .i64 0, .string s, .string ⟨#[48]⟩] 100)) := ⟨_, Lib.hid rfl⟩
   have HR0 : Hid (BoxV W0 w.heap.size 0 ⟨#[]⟩ ⟨#[]⟩) := Lib.hid (by rw [hW0.out]; exact (BoxV.new w _ _ _ _).al _)
   have HV0 : Hid (BoxV W0 (w.heap.size + 1) 0 s ⟨#[48]⟩) := Lib.hid (by rw [hW0.out]; have := BoxV.new (w.alloc (.cells #[.int .i64 0, .string ⟨#[]⟩, .string ⟨#[]⟩] 100)) 0 s ⟨#[48]⟩ 100; simpa using this)
   have HB0 : Hid (Below w.heap.size w W0) := Lib.hid (by rw [hW0.out]; exact ((Below.refl _ _).alloc (Nat.le_refl _) _).alloc (by simp) _)
   rw [← hW0.out]
   clear hW0
   rcases HC.out with ⟨rfl, h, rfl, rfl⟩ | ⟨rfl, k, h, hk, rfl, rfl⟩
   ·
    have HT : Hid (AtTail A A ⟨#[46, 43, 45, 126, 58]⟩ 0) := Lib.hid (by
     rcases HW.out with ⟨_, hv⟩ | ⟨k, hk, _⟩
     ·
      exact hv
     ·
      omega)
    clear HW HC h HV HN
    go_wp2
    go_meet
    case rel => exact ⟨A, 0, hs, HT, HV0.out.dr _, HR0.out.dr _, Lib.hid (belowQ HB0.out _)⟩
   ·
    have HK : Hid (((epochP (s.extract 0 k).data.toList).2 = 0 → AtTail s (s.extract (k + 1) s.size) ⟨#[46, 43, 45, 126, 58]⟩ (epochP (s.extract 0 k).data.toList).1) ∧ ((epochP (s.extract 0 k).data.toList).2 ≠ 0 → verOf s.data.toList = none)) := Lib.hid (by
     rcases HW.out with ⟨h', _⟩ | ⟨j, hj, _, h1, h2⟩
     ·
      omega
     ·
      obtain rfl : j = k := by omega
      have e1 : (s.extract 0 j).data.toList = s.data.toList.take j := by rw [extL]; simp
      rw [e1]
      refine ⟨fun g => ?_, h2⟩
      unfold AtTail
      rw [h1 g, ext_all])
    have E := fun (w' : World) (hw : LaidV w') => epoch_any (s.extract 0 k) (by rw [ByteArray.size_extract]; omega) w' hw
    unfold EpochPost at E
    have hes : (epochP (s.extract 0 k).data.toList).2 = 0 ∨ (epochP (s.extract 0 k).data.toList).2 = 2 := by unfold epochP; split <;> simp
    generalize epochP (s.extract 0 k).data.toList = ep at *
    obtain ⟨z, er⟩ := ep
    simp only [] at HK E hes
    have HLB : Hid (LaidV W0) := Lib.hid (HL.out.on HB0.out)
    clear HW HC h HL
    rcases hes with rfl | rfl
    ·
     have HT := Lib.hid (HK.out.1 rfl)
     have hx : (s.extract (k + 1) s.size).size ≤ 4000 := by rw [ByteArray.size_extract]; omega
     clear HK HV HN
     go_wp2_with (go_at_call 135; refine (E _ (LaidV.dr HLB _)).mono ?_; rintro e w2 ⟨rfl, hb⟩; obtain ⟨r0, r1, r2, rf⟩ := (HR0.out.dr q).on hb; obtain ⟨v0, v1, v2, vf⟩ := (HV0.out.dr q).on hb; have HBX := Lib.hid (fin (belowQ HB0.out q) hb); clear hb E)
     go_meet
     case rel => exact ⟨_, z, hx, HT, (BoxV.set0 ⟨v0, v1, v2, vf⟩ z).set1 _, ((BoxV.setX ⟨r0, r1, r2, rf⟩ (by omega) _ _).setX (by omega) _ _), Lib.hid ((HBX.out.setCell (by simp) _).setCell (by simp) _)⟩
    ·
     have HT := Lib.hid (HK.out.2 (by decide))
     clear HK HV HV0
     go_wp2_with (go_at_call 135; refine (E _ (LaidV.dr HLB _)).mono ?_; rintro e w2 ⟨rfl, hb⟩; obtain ⟨r0, r1, r2, rf⟩ := (HR0.out.dr q).on hb; have HBX := Lib.hid (fin (belowQ HB0.out q) hb); clear hb E)
     obtain ⟨k0, k1, k2, _⟩ := BoxV.put ⟨r0, r1, r2, rf⟩ 0 ⟨#[]⟩ ⟨#[]⟩
     exact bodyPost_ret (v := .tuple #[.agg #[.int .i64 0, .string ⟨#[]⟩, .string ⟨#[]⟩], .int .i64 2]) (by simp [results, Tryz.results101, go_sem, k0, k1, k2]) rfl (HN.out HT.out _ _ rfl (putV_below HBX.out (Nat.le_refl _) _ _ _))
  case rest =>
   obtain ⟨l, e, hll, HT, ⟨c0, c1, c2, cf⟩, HR, HB⟩ := hcut
   have D4 := C4 l hll
   have hlb := lastI_bd 45 l.data.toList
   have hlz := sizeOf l
   have HC : Hid ((lastI 45 l.data.toList < 0 → Cut2 l l ⟨#[48]⟩) ∧ ∀ k : Nat, lastI 45 l.data.toList = k → Cut2 l (l.extract 0 k) (l.extract (k + 1) l.size)) := Lib.hid ⟨cut_none, fun k => cut_some⟩
   generalize lastI 45 l.data.toList = zh at D4 hlb HC
   have hzh : -1 ≤ zh ∧ (zh < l.size ∨ zh = -1) := by rcases hlb with h | h <;> omega
   obtain ⟨hzh1, hzh2⟩ := hzh
   have HBX := Lib.hid (BoxV.mk c0 c1 c2 cf)
   clear hlb hlz HN C58 C4 HW
   go_upto_if 41 with (first | (go_at_call 136; refine (D4 _).mono ?_; rintro e1 w1 ⟨rfl, rfl⟩))
   go_cut [] (fun wx => ∃ (U V : ByteArray), U.size ≤ 4000 ∧ V.size ≤ 4000 ∧ Hid (Cut2 l U V) ∧ BoxV wx (w.heap.size + 1) e U V ∧ BoxV wx w.heap.size 0 ⟨#[]⟩ ⟨#[]⟩ ∧ Hid (Below w.heap.size w wx))
   case first =>
    clear D4
    have hf0 := cf 0
    have hf1 := cf 1
    have hf2 := cf 2
    clear cf
    by_cases hz : zh < 0
    ·
     have HU := Lib.hid (HC.out.1 hz)
     clear HC
     go_wp2
     go_meet
     case rel => exact ⟨l, ⟨#[48]⟩, hll, by decide, HU, HBX.out, HR, HB⟩
    ·
     obtain ⟨k, rfl⟩ : ∃ k : Nat, zh = k := ⟨zh.toNat, by omega⟩
     have HU := Lib.hid (HC.out.2 k rfl)
     have hk : k < l.size := by omega
     clear HC hzh1 hzh2 hz
     go_wp2
     go_region
     go_wp2
     go_meet
     case rel => exact ⟨l.extract 0 k, l.extract (k + 1) l.size, by rw [ByteArray.size_extract]; omega, by rw [ByteArray.size_extract]; omega, HU, by first | exact ((HBX.out.set1 _).set2 _).dr _ | exact ((HBX.out.dr _).set1 _).set2 _, by first | exact (((BoxV.setX HR (by omega) _ _).setX (by omega) _ _)).dr _ | exact ((HR.dr _).setX (by omega) _ _).setX (by omega) _ _, Lib.hid (by first | exact belowQ ((HB.out.setCell (by simp) _).setCell (by simp) _) _ | exact ((belowQ HB.out _).setCell (by simp) _).setCell (by simp) _)⟩
   case rest =>
    obtain ⟨U, V, hU, hV, HU, ⟨d0, d1, d2, df⟩, ⟨r0, r1, r2, rf⟩, HB2⟩ := hcut
    clear D4 HC hzh1 hzh2 HB HBX c0 c1 c2 cf HR
    have HO := Lib.hid (HV.out l e (restV e m5 l.data.toList) HT.out rfl)
    have hcu : cutHy l.data.toList = (U.data.toList, V.data.toList) := HU.out
    have RU := fun w => rightUp_any U (by omega) w
    have RV := fun w => rightRev_any V (by omega) w
    have HRS : Hid (parseV s.data.toList = parsedV (if (headDg U.data.toList && onlyB m5 U.data.toList) = true ∧ (decide (0 < V.size) && onlyB [46, 43, 126] V.data.toList) = true then some (e, U.data.toList, V.data.toList) else none)) := Lib.hid (by
     rw [HO.out]
     unfold restV
     rw [hcu]
     congr 1
     have hv : V.data.toList ≠ [] ↔ 0 < V.size := by rw [sizeOf, List.length_pos_iff]
     simp only [Bool.and_eq_true, decide_eq_true_eq, hv]
     congr 1
     exact propext ⟨fun ⟨a, b, c, d⟩ => ⟨⟨a, b⟩, c, d⟩, fun ⟨⟨a, b⟩, c, d⟩ => ⟨a, b, c, d⟩⟩)
    generalize (headDg U.data.toList && onlyB m5 U.data.toList) = b1 at *
    generalize (decide (0 < V.size) && onlyB [46, 43, 126] V.data.toList) = b2 at *
    clear HU hcu HO HV HT
    cases b1
    ·
     have HF : Hid (Value.tuple #[.agg #[.int .i64 0, .string ⟨#[]⟩, .string ⟨#[]⟩], .int .i64 2] = parseV s.data.toList) := Lib.hid (by rw [HRS.out, if_neg (by simp)]; rfl)
     clear RV HRS
     go_wp2_with (first | (go_at_call 137; refine (RU _).mono ?_; rintro e1 w1 ⟨rfl, rfl⟩))
     obtain ⟨k0, k1, k2, _⟩ := BoxV.put ⟨r0, r1, r2, rf⟩ 0 ⟨#[]⟩ ⟨#[]⟩
     exact bodyPost_ret (v := .tuple #[.agg #[.int .i64 0, .string ⟨#[]⟩, .string ⟨#[]⟩], .int .i64 2]) (by simp [results, Tryz.results101, go_sem, k0, k1, k2]) rfl ⟨congrArg Ending.returned HF.out, putV_below HB2.out (Nat.le_refl _) _ _ _⟩
    ·
     cases b2
     ·
      have HF : Hid (Value.tuple #[.agg #[.int .i64 0, .string ⟨#[]⟩, .string ⟨#[]⟩], .int .i64 2] = parseV s.data.toList) := Lib.hid (by rw [HRS.out, if_neg (by simp)]; rfl)
      clear HRS
      go_wp2_with (first | (go_at_call 137; refine (RU _).mono ?_; rintro e1 w1 ⟨rfl, rfl⟩) | (go_at_call 138; refine (RV _).mono ?_; rintro e1 w1 ⟨rfl, rfl⟩))
      obtain ⟨k0, k1, k2, _⟩ := BoxV.put ⟨r0, r1, r2, rf⟩ 0 ⟨#[]⟩ ⟨#[]⟩
      exact bodyPost_ret (v := .tuple #[.agg #[.int .i64 0, .string ⟨#[]⟩, .string ⟨#[]⟩], .int .i64 2]) (by simp [results, Tryz.results101, go_sem, k0, k1, k2]) rfl ⟨congrArg Ending.returned HF.out, putV_below HB2.out (Nat.le_refl _) _ _ _⟩
     ·
      have HF : Hid (Value.tuple #[.agg #[.int .i64 e, .string U, .string V], .int .i64 0] = parseV s.data.toList) := Lib.hid (by
       rw [HRS.out, if_pos ⟨rfl, rfl⟩]
       show _ = Value.tuple #[verV (e, U.data.toList, V.data.toList), .int .i64 0]
       unfold verV
       rw [← strOf (x := U) rfl, ← strOf (x := V) rfl])
      clear HRS
      go_wp2_with (first | (go_at_call 137; refine (RU _).mono ?_; rintro e1 w1 ⟨rfl, rfl⟩) | (go_at_call 138; refine (RV _).mono ?_; rintro e1 w1 ⟨rfl, rfl⟩))
      obtain ⟨k0, k1, k2, _⟩ := BoxV.put ⟨r0, r1, r2, rf⟩ e U V
      exact bodyPost_ret (v := .tuple #[.agg #[.int .i64 e, .string U, .string V], .int .i64 0]) (by simp [results, Tryz.results101, go_sem, k0, k1, k2]) rfl ⟨congrArg Ending.returned HF.out, putV_below HB2.out (Nat.le_refl _) _ _ _⟩
end
end Go.Proofs.YtkbkaeefdhkgdaaGreatDoor
