/-
  What the versions' readers ask of the program's variables (LaidV); strings.Cut at one byte, strconv.ParseUint at base 10, and the program's parseEpoch: what each returns; nothing old turns. Conditions: LaidV.
-/
import Derived.Test.YtkcamfcjkjiijaaGreatDoorPVPA
import Derived.WalkSmall
import Derived.Shelf.Strconv.ToError
import Derived.Shelf.Strconv.ToErrorRange
import Derived.Shelf.Strconv.ParseUintEmpty
import Derived.Lib.AtoiTie
import Derived.Lib.ParseIntBCases
import Derived.Lib.ItoaMem
namespace Go.Proofs.YtkcamfcjkjiijaaGreatDoor
open Go.RowKit
/-- WHAT THE WORLD HOLDS OF THE PROGRAM's VARIABLES. -/
structure LaidV (w : World) : Prop where
  pow : Lib.TabIs Tryz.prog w "internal/strconv.uint64pow10" .u64 Lib.pow10Tab
  syn : ∃ tp p, w.var? Tryz.prog "strconv.ErrSyntax" = some #[.iface tp p]
  rng : ∃ tp p, w.var? Tryz.prog "strconv.ErrRange" = some #[.iface tp p]
  size : 8 ≤ w.heap.size
theorem gPow : Tryz.prog.globalNamed "internal/strconv.uint64pow10" = some 5 := by kernel_rfl
theorem gSyn : Tryz.prog.globalNamed "strconv.ErrSyntax" = some 3 := by kernel_rfl
theorem gRng : Tryz.prog.globalNamed "strconv.ErrRange" = some 4 := by kernel_rfl
theorem LaidV.on {w w' : World} (h : LaidV w) (hb : Below w.heap.size w w') : LaidV w' where
  pow := by
    have := h.pow
    unfold Lib.TabIs at this ⊢
    exact var?_below hb gPow (by have := h.size; omega) this
  syn := by obtain ⟨tp, p, hv⟩ := h.syn; exact ⟨tp, p, var?_below hb gSyn (by have := h.size; omega) hv⟩
  rng := by obtain ⟨tp, p, hv⟩ := h.rng; exact ⟨tp, p, var?_below hb gRng (by have := h.size; omega) hv⟩
  size := Nat.le_trans h.size hb.size
theorem LaidV.al {w : World} (h : Hid (LaidV w)) (o : Obj) : LaidV (w.alloc o) := h.out.on ((Below.refl _ _).alloc (Nat.le_refl _) o)
theorem LaidV.dr {w : World} (h : Hid (LaidV w)) (q : Nat) : LaidV (w.drewN q) := h.out.on (belowQ (Below.refl _ _) q)
-- strings.Cut at one byte
theorem idx_first (l : Bs) (c : UInt8) : Lib.indexByte l c = firstI c l := by
  induction l with
  | nil => rfl
  | cons b l ih =>
    unfold Lib.indexByte
    by_cases h : b = c
    · subst h
      rw [if_pos (by simp)]
      unfold firstI
      rw [if_pos (by simp)]; simp
    · rw [if_neg (by simpa using h), ih]
      have hm : c ∈ b :: l ↔ c ∈ l := by
        rw [List.mem_cons]
        exact ⟨fun g => g.elim (fun e => absurd e.symm h) id, .inr⟩
      unfold firstI
      by_cases g : c ∈ l
      · rw [if_pos g, if_pos (hm.2 g), List.takeWhile_cons, if_pos (decide_eq_true h), List.length_cons]
        rw [if_neg (by rw [beq_iff_eq]; omega)]
        omega
      · rw [if_neg g, if_neg (fun x => g (hm.1 x)), if_pos (by simp)]
def Cut1Post (s : ByteArray) (c : UInt8) (w : World) (e : Ending) (w' : World) : Prop :=
  (∃ q, w' = w.drewN q) ∧ ((firstI c s.data.toList = -1 ∧ e = .returned (.tuple #[.string s, .string ⟨#[]⟩, .bool false])) ∨
    ∃ k : Nat, firstI c s.data.toList = k ∧ k < s.size ∧ e = .returned (.tuple #[.string (s.extract 0 k), .string (s.extract (k + 1) s.size), .bool true]))
theorem first_cases (s : ByteArray) (c : UInt8) : firstI c s.data.toList = -1 ∨ ∃ k : Nat, firstI c s.data.toList = k ∧ k < s.size := by
  have h := firstI_ge (c := c) (l := s.data.toList)
  have hl := sizeOf s
  by_cases h0 : firstI c s.data.toList = -1
  · exact .inl h0
  · right
    refine ⟨(firstI c s.data.toList).toNat, ?_, ?_⟩ <;> rcases h with ⟨h, h'⟩ | ⟨h, h'⟩ <;> omega
theorem cut1_in (s : ByteArray) (hs : s.size ≤ 100000) (c : UInt8) (w : World) : Calls Tryz.prog 182 #[.string s, .string ⟨#[c]⟩] w (Cut1Post s c w) := by
  have C := fun w => Tryz.stringslite_Index_one s c w
  rw [idx_first] at C
  have h1s : (ByteArray.mk #[c]).size = 1 := rfl
  rcases first_cases s c with h | ⟨k, h, hk⟩
  · have HP : Hid (∀ q e, e = .returned (.tuple #[.string s, .string ⟨#[]⟩, .bool false]) → Cut1Post s c w e (w.drewN q)) := Lib.hid (fun q e he => ⟨⟨q, rfl⟩, .inl ⟨h, he⟩⟩)
    rw [h] at C
    clear h
    go_enter Tryz.func182, Tryz.ntmps182
    go_wp2_with (go_at_call 192; refine (C _).mono ?_; rintro e w1 ⟨rfl, hw⟩; subst hw)
    go_ret3
    exact HP.out 0 _ rfl
  · have HP : Hid (∀ q e, e = .returned (.tuple #[.string (s.extract 0 k), .string (s.extract (k + 1) s.size), .bool true]) → Cut1Post s c w e (w.drewN q)) := Lib.hid (fun q e he => ⟨⟨q, rfl⟩, .inr ⟨k, h, hk, he⟩⟩)
    rw [h] at C
    clear h
    go_enter Tryz.func182, Tryz.ntmps182
    go_wp2_with (go_at_call 192; refine (C _).mono ?_; rintro e w1 ⟨rfl, hw⟩; subst hw)
    go_region
    go_wp2
    go_ret3
    exact HP.out 1 _ rfl
theorem cut1_any (s : ByteArray) (hs : s.size ≤ 100000) (c : UInt8) (w : World) : Calls Tryz.prog 165 #[.string s, .string ⟨#[c]⟩] w (Cut1Post s c w) := by
  have C := cut1_in s hs c w
  rcases first_cases s c with h | ⟨k, h, hk⟩
  · have C' : Calls Tryz.prog 182 #[.string s, .string ⟨#[c]⟩] w fun e w' => e = .returned (.tuple #[.string s, .string ⟨#[]⟩, .bool false]) ∧ ∃ q, w' = w.drewN q := C.mono fun e w' hp => by
      obtain ⟨hq, ⟨_, he⟩ | ⟨j, hj, _⟩⟩ := hp
      · exact ⟨he, hq⟩
      · omega
    have HP : Hid (∀ q e, e = .returned (.tuple #[.string s, .string ⟨#[]⟩, .bool false]) → Cut1Post s c w e (w.drewN q)) := Lib.hid (fun q e he => ⟨⟨q, rfl⟩, .inl ⟨h, he⟩⟩)
    clear h C
    go_enter Tryz.func165, Tryz.ntmps165
    go_wp2_with (go_at_call 182; refine C'.mono ?_; rintro e w1 ⟨rfl, q, rfl⟩)
    go_ret3
    exact HP.out q _ rfl
  · have C' : Calls Tryz.prog 182 #[.string s, .string ⟨#[c]⟩] w fun e w' => e = .returned (.tuple #[.string (s.extract 0 k), .string (s.extract (k + 1) s.size), .bool true]) ∧ ∃ q, w' = w.drewN q := C.mono fun e w' hp => by
      obtain ⟨hq, ⟨h', _⟩ | ⟨j, hj, _, he⟩⟩ := hp
      · omega
      · obtain rfl : j = k := by omega
        exact ⟨he, hq⟩
    have HP : Hid (∀ q e, e = .returned (.tuple #[.string (s.extract 0 k), .string (s.extract (k + 1) s.size), .bool true]) → Cut1Post s c w e (w.drewN q)) := Lib.hid (fun q e he => ⟨⟨q, rfl⟩, .inr ⟨k, h, hk, he⟩⟩)
    clear h C
    go_enter Tryz.func165, Tryz.ntmps165
    go_wp2_with (go_at_call 182; refine C'.mono ?_; rintro e w1 ⟨rfl, q, rfl⟩)
    go_ret3
    exact HP.out q _ rfl
-- Numbers
theorem decFrom_yes : ∀ (l : Bs) (acc : Nat), l.all dgB = true → ∃ n : Nat, Lib.decFrom acc l = some n ∧ (n : Int) = l.foldl (fun n c => 10 * n + (c.toNat : Int) - 48) (acc : Int)
  | [], acc, _ => ⟨acc, rfl, rfl⟩
  | c :: l, acc, h => by
    rw [List.all_cons, Bool.and_eq_true] at h
    have hd := h.1
    simp only [dgB, Bool.and_eq_true, decide_eq_true_eq] at hd
    obtain ⟨n, h1, h2⟩ := decFrom_yes l (acc * 10 + (c.toNat - 48)) h.2
    refine ⟨n, ?_, ?_⟩
    · unfold Lib.decFrom Lib.digitVal
      rw [if_pos hd]; exact h1
    · rw [h2, List.foldl_cons]; congr 1; omega
theorem decFrom_no : ∀ (l : Bs) (acc : Nat), l.all dgB = false → Lib.decFrom acc l = none
  | [], acc, h => by cases h
  | c :: l, acc, h => by
    unfold Lib.decFrom Lib.digitVal
    by_cases hd : 48 ≤ c.toNat ∧ c.toNat ≤ 57
    · rw [if_pos hd]
      refine decFrom_no l _ ?_
      rw [List.all_cons] at h
      have : dgB c = true := by simp only [dgB, Bool.and_eq_true, decide_eq_true_eq]; exact hd
      rw [this, Bool.true_and] at h; exact h
    · rw [if_neg hd]
theorem uintB_short (l : Bs) (hl : l.length ≤ 18) : Lib.parseUintB 64 l = Lib.NumEnd.ofOption (Lib.decNat l) := by
  have eM : (2 : Nat) ^ 64 - 1 = 18446744073709551615 := by decide
  rw [← Lib.parseMag_short l hl]
  unfold Lib.parseUintB Lib.parseMag
  rw [eM, Lib.parseUintM_64]
/-- What parseEpoch tells. -/
def epochP (l : Bs) : Int × Int := if l ≠ [] ∧ l.length ≤ 9 ∧ l.all dgB = true then (epochOf l, 0) else (0, 2)
theorem epochP_yes {l : Bs} (h : l ≠ [] ∧ l.length ≤ 9 ∧ l.all dgB = true) : epochP l = (epochOf l, 0) := if_pos h
theorem epochP_no {l : Bs} (h : ¬ (l ≠ [] ∧ l.length ≤ 9 ∧ l.all dgB = true)) : epochP l = (0, 2) := if_neg h
theorem epoch_lt {l : Bs} (h : l.length ≤ 9) (ha : l.all dgB = true) : 0 ≤ epochOf l ∧ epochOf l < 1000000000 := by
  have h1 := epoch_bd l ha
  have h2 : (10 : Int) ^ l.length ≤ 10 ^ 9 := by exact_mod_cast Nat.pow_le_pow_right (n := 10) (by decide) h
  have e : (10 : Int) ^ 9 = 1000000000 := by decide
  omega
theorem uint_ok {l : Bs} {n : Nat} (h : Lib.parseUintB 64 l = .ok n) (hl : l.length ≤ 9) : l ≠ [] ∧ l.all dgB = true ∧ (n : Int) = epochOf l := by
  rw [uintB_short l (by omega)] at h
  unfold Lib.decNat at h
  cases l with
  | nil => cases h
  | cons c t =>
    rw [if_neg (by simp)] at h
    cases ha : (c :: t).all dgB
    · rw [decFrom_no _ _ ha] at h; cases h
    · obtain ⟨m, h1, h2⟩ := decFrom_yes (c :: t) 0 ha
      rw [h1] at h
      cases h
      exact ⟨by simp, rfl, h2⟩
theorem uint_bad {l : Bs} (h : ∀ n, Lib.parseUintB 64 l ≠ .ok n) : ¬ (l ≠ [] ∧ l.length ≤ 9 ∧ l.all dgB = true) := by
  rintro ⟨h1, h2, h3⟩
  obtain ⟨n, g1, _⟩ := decFrom_yes l 0 h3
  refine h n ?_
  rw [uintB_short l (by omega)]
  unfold Lib.decNat
  rw [if_neg (by cases l <;> simp at h1 ⊢), g1]; rfl
theorem syn_cell {w : World} (h : LaidV w) : ∃ tp p, w.cell? ⟨3, 0, none⟩ = some (.iface tp p) := by
  obtain ⟨tp, p, hv⟩ := h.syn
  exact ⟨tp, p, by have h0 := World.var?_cell gSyn hv 0; simpa using h0⟩
theorem rng_cell {w : World} (h : LaidV w) : ∃ tp p, w.cell? ⟨4, 0, none⟩ = some (.iface tp p) := by
  obtain ⟨tp, p, hv⟩ := h.rng
  exact ⟨tp, p, by have h0 := World.var?_cell gRng hv 0; simpa using h0⟩
def UintPost (l : Bs) (w : World) (e : Ending) (w' : World) : Prop :=
  Below w.heap.size w w' ∧ ((∃ n : Nat, (l.length ≤ 9 → l ≠ [] ∧ l.all dgB = true ∧ (n : Int) = epochOf l) ∧ e = .returned (.tuple #[.int .u64 n, .nilIface])) ∨
    (¬ (l ≠ [] ∧ l.length ≤ 9 ∧ l.all dgB = true)) ∧ ∃ (z : Int) (T : TypeId) (p : Value), e = .returned (.tuple #[.int .u64 z, .iface T p]))
theorem fin {w W w1 : World} (h : Below w.heap.size w W) (hb : Below W.heap.size W w1) : Below w.heap.size w w1 := h.trans (hb.mono h.size)
set_option maxHeartbeats 2000000 in
theorem uint_any (s : ByteArray) (hs : s.size ≤ 100000) (w : World) (h : LaidV w) : Calls Tryz.prog 183 #[.string s, .int .i64 10, .int .i64 64] w (UintPost s.data.toList w) := by
  have C : Calls Tryz.prog 193 #[.string s, .int .i64 10, .int .i64 64] w fun e w' => e = .returned (Lib.uintTupleM 224 18446744073709551615 (Lib.parseUintB 64 s.data.toList)) ∧ Below w.heap.size w w' :=
    (Tryz.internal_strconv_ParseUint_10_at64 s (by omega) w).mono fun e w' he => ⟨he.1, by rcases he.2 with rfl | rfl; exact Below.refl _ _; exact Lib.bytesWorld_below w _ s⟩
  have HL := Lib.hid h
  have hz : s.size ≤ 281474976710656 := by omega
  have HZ := Lib.hid hz
  clear h hz hs
  rcases g : Lib.parseUintB 64 s.data.toList with n | _ | _
  · rw [g] at C
    have HP : Hid (∀ w' e, Below w.heap.size w w' → e = .returned (.tuple #[.int .u64 n, .nilIface]) → UintPost s.data.toList w e w') := Lib.hid (fun w' e hb he => ⟨hb, .inl ⟨n, uint_ok g, he⟩⟩)
    have C' : Calls Tryz.prog 193 #[.string s, .int .i64 10, .int .i64 64] w fun e w' => e = .returned (.tuple #[.int .u64 n, .nilIface]) ∧ Below w.heap.size w w' := C
    clear g C
    go_enter Tryz.func183, Tryz.ntmps183
    go_wp2_with (go_at_call 193; refine C'.mono ?_; rintro e w1 ⟨rfl, hb⟩; have HB := Lib.hid hb; clear hb)
    go_ret2
    exact HP.out _ _ HB.out rfl
  · rw [g] at C
    have HP : Hid (∀ (T : TypeId) (p : Value) w' e, Below w.heap.size w w' → e = .returned (.tuple #[.int .u64 0, .iface T p]) → UintPost s.data.toList w e w') := Lib.hid (fun T p w' e hb he => ⟨hb, .inr ⟨uint_bad (fun n h => by rw [g] at h; cases h), _, T, p, he⟩⟩)
    have C' : Calls Tryz.prog 193 #[.string s, .int .i64 10, .int .i64 64] w fun e w' => e = .returned (.tuple #[.int .u64 0, .iface 224 (.int .i64 2)]) ∧ Below w.heap.size w w' := C
    clear g C
    go_enter Tryz.func183, Tryz.ntmps183
    go_wp2_with (go_at_call 193; refine C'.mono ?_; rintro e w1 ⟨rfl, hb⟩; refine Hid.out ?_)
    obtain ⟨tp, p, hc⟩ := syn_cell (HL.out.on hb)
    have HT := fun fn => Any.strconv_toError_syntax Tryz.laysC245 fn s 10 64 (.iface tp p) w1 HZ.out hc (Or.inr ⟨_, _, rfl⟩)
    have HB := Lib.hid hb
    clear hb hc
    refine Lib.hid ?_
    go_wp2_with (go_at_call 194; refine (HT _).mono ?_; rintro e w2 ⟨N, rfl, _, _, hb2⟩; have HB2 := Lib.hid hb2; clear hb2)
    go_ret2
    exact HP.out _ _ _ _ (fin HB.out HB2.out) rfl
  · rw [g] at C
    have HP : Hid (∀ (T : TypeId) (p : Value) w' e, Below w.heap.size w w' → e = .returned (.tuple #[.int .u64 18446744073709551615, .iface T p]) → UintPost s.data.toList w e w') := Lib.hid (fun T p w' e hb he => ⟨hb, .inr ⟨uint_bad (fun n h => by rw [g] at h; cases h), _, T, p, he⟩⟩)
    have C' : Calls Tryz.prog 193 #[.string s, .int .i64 10, .int .i64 64] w fun e w' => e = .returned (.tuple #[.int .u64 18446744073709551615, .iface 224 (.int .i64 1)]) ∧ Below w.heap.size w w' := C
    clear g C
    go_enter Tryz.func183, Tryz.ntmps183
    go_wp2_with (go_at_call 193; refine C'.mono ?_; rintro e w1 ⟨rfl, hb⟩; refine Hid.out ?_)
    obtain ⟨tp, p, hc⟩ := rng_cell (HL.out.on hb)
    have HT := fun fn => Any.strconv_toError_range Tryz.laysC245 fn s 10 64 (.iface tp p) w1 HZ.out hc (Or.inr ⟨_, _, rfl⟩)
    have HB := Lib.hid hb
    clear hb hc
    refine Lib.hid ?_
    go_wp2_with (go_at_call 194; refine (HT _).mono ?_; rintro e w2 ⟨N, rfl, _, _, hb2⟩; have HB2 := Lib.hid hb2; clear hb2)
    go_ret2
    exact HP.out _ _ _ _ (fin HB.out HB2.out) rfl
def EpochPost (l : Bs) (w : World) (e : Ending) (w' : World) : Prop := e = .returned (.tuple #[.int .i64 (epochP l).1, .int .i64 (epochP l).2]) ∧ Below w.heap.size w w'
set_option maxHeartbeats 2000000 in
theorem epoch_any (s : ByteArray) (hs : s.size ≤ 100000) (w : World) (h : LaidV w) : Calls Tryz.prog 166 #[.string s] w (EpochPost s.data.toList w) := by
  have C := uint_any s hs w h
  have hl := sizeOf s
  refine Calls.mono (R := fun e w' => EpochPost s.data.toList w e w') ?_ (fun _ _ h => h)
  by_cases hy : s.data.toList ≠ [] ∧ s.data.toList.length ≤ 9 ∧ s.data.toList.all dgB = true
  · have C' : Calls Tryz.prog 183 #[.string s, .int .i64 10, .int .i64 64] w fun e w' => e = .returned (.tuple #[.int .u64 (epochOf s.data.toList), .nilIface]) ∧ Below w.heap.size w w' := C.mono fun e w' hp => by
      obtain ⟨hb, ⟨n, hn, he⟩ | ⟨hn, _⟩⟩ := hp
      · rw [← (hn hy.2.1).2.2]; exact ⟨he, hb⟩
      · exact absurd hy hn
    have hp := epochP_yes hy
    have hb := epoch_lt hy.2.1 hy.2.2
    have HP : Hid (∀ w' e, Below w.heap.size w w' → e = .returned (.tuple #[.int .i64 (epochOf s.data.toList), .int .i64 0]) → EpochPost s.data.toList w e w') := Lib.hid (fun w' e hb he => ⟨by rw [he, hp], hb⟩)
    have h9 : s.size ≤ 9 := by rw [hl]; exact hy.2.1
    obtain ⟨hb1, hb2⟩ := hb
    generalize epochOf s.data.toList = z at *
    clear hy hp hl C h
    go_enter Tryz.func166, Tryz.ntmps166
    go_wp2_with (go_at_call 183; refine C'.mono ?_; rintro e w1 ⟨rfl, hb⟩; have HB := Lib.hid hb; clear hb)
    go_ret2
    exact HP.out _ _ HB.out rfl
  · have hp := epochP_no hy
    have HP : Hid (∀ w' e, Below w.heap.size w w' → e = .returned (.tuple #[.int .i64 0, .int .i64 2]) → EpochPost s.data.toList w e w') := Lib.hid (fun w' e hb he => ⟨by rw [he, hp], hb⟩)
    by_cases h9 : s.size ≤ 9
    · have C' : Calls Tryz.prog 183 #[.string s, .int .i64 10, .int .i64 64] w fun e w' => ∃ (z : Int) (T : TypeId) (p : Value), e = .returned (.tuple #[.int .u64 z, .iface T p]) ∧ Below w.heap.size w w' := C.mono fun e w' hp => by
        obtain ⟨hb, ⟨n, hn, he⟩ | ⟨_, z, T, p, he⟩⟩ := hp
        · have := hn (by omega)
          exact absurd ⟨this.1, by omega, this.2.1⟩ hy
        · exact ⟨z, T, p, he, hb⟩
      clear hy hp hl C h
      go_enter Tryz.func166, Tryz.ntmps166
      go_wp2_with (go_at_call 183; refine C'.mono ?_; rintro e w1 ⟨z, T, p, rfl, hb⟩; have HB := Lib.hid hb; clear hb)
      go_ret2
      exact HP.out _ _ HB.out rfl
    · have C' : Calls Tryz.prog 183 #[.string s, .int .i64 10, .int .i64 64] w fun e w' => ∃ (z : Int) (v : Value), e = .returned (.tuple #[.int .u64 z, v]) ∧ (v = .nilIface ∨ ∃ T p, v = .iface T p) ∧ Below w.heap.size w w' := C.mono fun e w' hp => by
        obtain ⟨hb, ⟨n, hn, he⟩ | ⟨_, z, T, p, he⟩⟩ := hp
        · exact ⟨_, _, he, .inl rfl, hb⟩
        · exact ⟨_, _, he, .inr ⟨T, p, rfl⟩, hb⟩
      have h9' : 9 < s.size := by omega
      clear hy hp hl C h h9
      go_enter Tryz.func166, Tryz.ntmps166
      go_wp2_with (go_at_call 183; refine C'.mono ?_; rintro e w1 ⟨z, v, rfl, (rfl | ⟨T, p, rfl⟩), hb⟩ <;> (have HB := Lib.hid hb; clear hb))
      all_goals
        go_ret2
        exact HP.out _ _ HB.out rfl
end Go.Proofs.YtkcamfcjkjiijaaGreatDoor
