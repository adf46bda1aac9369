/-
  literal and member of a pattern: what each returns; nothing old turns.
-/
import Derived.Test.YtapdmlejgakhaaaWStand
import Derived.Test.YtapdmlejgakhaaaShelf
namespace Go.Proofs.Ytapdmlejgakhaaa
open Go.RowKit
abbrev bsT (l : Bs) : ByteArray := ⟨l.toArray⟩
def LitP (s : Bs) (w : World) (e : Ending) (w' : World) : Prop := (match litL s with
  | some (c, r) => e = .returned (.tuple #[.int .u8 c.toNat, .string (bsT r), .bool true])
  | none => e = .returned (.tuple #[.int .u8 0, .string ⟨#[]⟩, .bool false])) ∧ Below w.heap.size w w'
theorem ext1 (s : ByteArray) : s.extract 1 s.size = bsT s.data.toList.tail := strOf (by rw [extL, List.drop_one, List.take_of_length_le (by rw [List.length_tail, sizeOf]; exact Nat.le_refl _)])
theorem lit_head (E : ByteArray) (h : 0 < E.size) : litL (92 :: E.data.toList) = some (E[0], E.data.toList.tail) := by
  have hcE : E.data.toList = E[0] :: E.data.toList.tail := by
    have := dropC E 0 h
    rw [List.drop_zero] at this
    rw [this]; rfl
  rw [hcE]; rfl
set_option maxRecDepth 100000 in
set_option maxHeartbeats 4000000 in
theorem lit_any (s : ByteArray) (w : World) : Calls Try.prog 23 #[.string s] w (LitP s.data.toList w) := by
  have he := emptyT s
  by_cases h0 : s.size = 0
  · have hn : s.data.toList = [] := List.eq_nil_of_length_eq_zero (by rw [← sizeOf]; exact h0)
    rw [decide_eq_true h0] at he
    have HP : Hid (∀ w', Below w.heap.size w w' → LitP s.data.toList w (.returned (.tuple #[.int .u8 0, .string ⟨#[]⟩, .bool false])) w') := Lib.hid (fun w' hb => by rw [hn]; exact ⟨rfl, hb⟩)
    clear h0 hn
    go_enter Try.func23, Try.ntmps23
    go_wp2
    go_ret3
    exact HP.out _ (Below.refl _ _)
  rw [decide_eq_false h0] at he
  have h1 : 0 < s.size := by omega
  have hc : s.data.toList = s[0] :: s.data.toList.tail := by
    have := dropC s 0 h1
    rw [List.drop_zero] at this
    rw [this]; rfl
  by_cases h92 : s[0] = 92
  · have e92 : ((s[0].toNat : Int) == 92) = true := by rw [h92]; rfl
    by_cases h2 : s.size = 1
    · have hn : s.data.toList.tail = [] := List.eq_nil_of_length_eq_zero (by rw [List.length_tail, ← sizeOf]; omega)
      have he1 : (s.extract 1 s.size).toList.isEmpty = true := by rw [emptyT, ByteArray.size_extract]; exact decide_eq_true (by omega)
      have HP : Hid (∀ w', Below w.heap.size w w' → LitP s.data.toList w (.returned (.tuple #[.int .u8 0, .string ⟨#[]⟩, .bool false])) w') := Lib.hid (fun w' hb => by rw [hc, h92, hn]; exact ⟨rfl, hb⟩)
      have h1' : 1 ≤ s.size := by omega
      clear h2 hn hc h0 h92
      go_enter Try.func23, Try.ntmps23
      go_wp2
      go_ret3
      exact HP.out _ (Below.refl _ _)
    · have hs1 : 0 < (s.extract 1 s.size).size := by rw [ByteArray.size_extract]; omega
      have he1 : (s.extract 1 s.size).toList.isEmpty = false := by rw [emptyT]; exact decide_eq_false (by omega)
      have key : ∀ (E : ByteArray) (hz : 0 < E.size), E.data.toList = s.data.toList.tail → litL s.data.toList = some (E[0], E.data.toList.tail) := fun E hz hEL => by
        rw [hc, h92, ← hEL]; exact lit_head E hz
      have key2 : ∀ (E : ByteArray) (hz : 0 < E.size), E.data.toList = s.data.toList.tail → ∀ (X : ByteArray) w', X = E.extract 1 E.size → Below w.heap.size w w' → LitP s.data.toList w (.returned (.tuple #[.int .u8 E[0].toNat, .string X, .bool true])) w' := fun E hz hEL X w' hX hb => by
        subst hX
        unfold LitP
        rw [key E hz hEL]
        exact ⟨by rw [ext1 E], hb⟩
      have HP := Lib.hid (key2 (s.extract 1 s.size) hs1 (by have := congrArg (fun z => ByteArray.data z |>.toList) (ext1 s); exact this.trans (bytesOf _)))
      have hsz : (s.extract 1 s.size).size = s.size - 1 := by rw [ByteArray.size_extract]; omega
      have HSZ := Lib.hid hsz
      clear hsz
      have hs2 : 0 < s.size - 1 := by omega
      have hs3 : 1 ≤ s.size - 1 := by omega
      clear key key2
      have h1' : 1 ≤ s.size := by omega
      have h1'' : 1 ≤ (s.extract 1 s.size).size := by omega
      clear h2 hc h0 h92
      go_enter Try.func23, Try.ntmps23
      go_wp2
      go_region
      go_wp2
      go_ret3
      exact HP.out _ _ (by rw [HSZ.out]) ((Below.refl _ _).drew)
  · have e92 : ((s[0].toNat : Int) == 92) = false := by
      rw [beq_eq_false_iff_ne]
      intro e
      exact h92 (UInt8.toNat_inj.1 (by have : s[0].toNat = 92 := by omega
                                       exact this))
    have HP : Hid (∀ w', Below w.heap.size w w' → LitP s.data.toList w (.returned (.tuple #[.int .u8 s[0].toNat, .string (s.extract 1 s.size), .bool true])) w') := Lib.hid (fun w' hb => by
      rw [ext1]
      unfold LitP
      rw [hc, litL_one h92]; exact ⟨rfl, hb⟩)
    have h1' : 1 ≤ s.size := by omega
    clear hc h0 h92
    go_enter Try.func23, Try.ntmps23
    go_wp2
    go_region
    go_wp2
    go_ret3
    exact HP.out _ ((Below.refl _ _).drew)
def MemP (s : Bs) (w : World) (e : Ending) (w' : World) : Prop := (match memL s with
  | some (a, b, r) => e = .returned (.tuple #[.int .u8 a.toNat, .int .u8 b.toNat, .string (bsT r), .bool true])
  | none => ∃ x y t, e = .returned (.tuple #[.int .u8 x, .int .u8 y, .string t, .bool false])) ∧ Below w.heap.size w w'
theorem pre_one (s : Bs) (c : UInt8) : Lib.hasPrefix s [c] = decide (s.head? = some c) ∧ (s.head? = some c → Lib.trimPrefix s [c] = s.tail) ∧ (¬ s.head? = some c → Lib.trimPrefix s [c] = s) := by
  cases s with
  | nil => exact ⟨by simp [Lib.hasPrefix], fun h => by simp at h, fun _ => rfl⟩
  | cons d t =>
    by_cases h : d = c
    · subst h
      have h1 : Lib.hasPrefix (d :: t) [d] = true := by simp [Lib.hasPrefix]
      refine ⟨by rw [h1]; simp, fun _ => by unfold Lib.trimPrefix; rw [if_pos h1]; rfl, fun g => absurd rfl g⟩
    · have hcd : (c == d) = false := by rw [beq_eq_false_iff_ne]; exact fun e => h (Eq.symm e)
      have h1 : Lib.hasPrefix (d :: t) [c] = false := by unfold Lib.hasPrefix; rw [List.isPrefixOf, hcd]; rfl
      refine ⟨by rw [h1]; simp [h], fun g => by simp at g; exact absurd g h, fun _ => by unfold Lib.trimPrefix; rw [if_neg (by rw [h1]; simp)]⟩
theorem litP_some {s : Bs} {c : UInt8} {r : Bs} (h : litL s = some (c, r)) {w w' : World} {e : Ending} (hp : LitP s w e w') : e = .returned (.tuple #[.int .u8 c.toNat, .string (bsT r), .bool true]) ∧ Below w.heap.size w w' := by
  unfold LitP at hp; rw [h] at hp; exact hp
theorem litP_none {s : Bs} (h : litL s = none) {w w' : World} {e : Ending} (hp : LitP s w e w') : e = .returned (.tuple #[.int .u8 0, .string ⟨#[]⟩, .bool false]) ∧ Below w.heap.size w w' := by
  unfold LitP at hp; rw [h] at hp; exact hp
theorem memL_is {s r : Bs} {a : UInt8} (h : litL s = some (a, r)) : memL s = if r.head? = some 45 ∧ r.tail.head? ≠ some 93 then (litL r.tail).map (fun y => (a, y.1, y.2)) else some (a, a, r) := by
  unfold memL; rw [h]; rfl
set_option maxRecDepth 100000 in
set_option maxHeartbeats 4000000 in
theorem mem_any (s : ByteArray) (w : World) : Calls Try.prog 27 #[.string s] w (MemP s.data.toList w) := by
  cases hl : litL s.data.toList with
  | none =>
    have L1 := fun W => (lit_any s W).mono (fun e w' hp => litP_none hl hp)
    have HP : Hid (∀ x y t w', Below w.heap.size w w' → MemP s.data.toList w (.returned (.tuple #[.int .u8 x, .int .u8 y, .string t, .bool false])) w') := Lib.hid (fun x y t w' hb => by
      have : memL s.data.toList = none := by unfold memL; rw [hl]; rfl
      unfold MemP; rw [this]; exact ⟨⟨x, y, t, rfl⟩, hb⟩)
    clear hl
    go_enter Try.func27, Try.ntmps27
    go_wp2_with (go_at_call 23; (with_reducible refine (L1 _).mono ?_); rintro e w1 ⟨rfl, hb⟩; have HB := Lib.hid hb; clear hb)
    exact bodyPost_ret (v := .tuple #[.int .u8 0, .int .u8 0, .string ⟨#[]⟩, .bool false]) (by simp [results, Try.results27, go_sem]) rfl (HP.out _ _ _ _ HB.out)
  | some p =>
    obtain ⟨a, r⟩ := p
    have L1 := fun W => (lit_any s W).mono (fun e w' hp => litP_some hl hp)
    have hm := memL_is hl
    obtain ⟨p1, p2, p3⟩ := pre_one r 45
    have C := fun W => Try.strings_CutPrefix (bsT r) ⟨#[45]⟩ W
    rw [bytesOf, show (ByteArray.mk #[45]).data.toList = [45] from rfl, p1] at C
    have HQ : Hid (∀ (b : UInt8) (v : Bs) X w', memL s.data.toList = some (a, b, v) → X = bsT v → Below w.heap.size w w' → MemP s.data.toList w (.returned (.tuple #[.int .u8 a.toNat, .int .u8 b.toNat, .string X, .bool true])) w') := Lib.hid (fun b v X w' h hX hb => by
      subst hX; unfold MemP; rw [h]; exact ⟨rfl, hb⟩)
    have HN : Hid (∀ x y t w', memL s.data.toList = none → Below w.heap.size w w' → MemP s.data.toList w (.returned (.tuple #[.int .u8 x, .int .u8 y, .string t, .bool false])) w') := Lib.hid (fun x y t w' h hb => by
      unfold MemP; rw [h]; exact ⟨⟨x, y, t, rfl⟩, hb⟩)
    have HR := Lib.hid (show bsT r = bsT r from rfl)
    obtain ⟨R, hR⟩ : ∃ R, bsT r = R := ⟨_, rfl⟩
    have HRR := Lib.hid hR
    by_cases h45 : r.head? = some 45
    · rw [p2 h45, decide_eq_true h45] at C
      obtain ⟨q1, -, -⟩ := pre_one r.tail 93
      have D := fun W => Try.strings_HasPrefix (bsT r.tail) ⟨#[93]⟩ W
      rw [bytesOf, show (ByteArray.mk #[93]).data.toList = [93] from rfl, q1] at D
      by_cases h93 : r.tail.head? = some 93
      · rw [decide_eq_true h93] at D
        rw [if_neg (fun h => h.2 h93)] at hm
        have HM := Lib.hid hm
        have C2 : ∀ W, Calls Try.prog 25 #[.string R, .string ⟨#[45]⟩] W fun e w' => e = .returned (.tuple #[.string (bsT r.tail), .bool true]) ∧ w' = W := fun W => by rw [← hR]; exact C W
        have L2 : ∀ W, Calls Try.prog 23 #[.string s] W fun e w' => e = .returned (.tuple #[.int .u8 a.toNat, .string R, .bool true]) ∧ Below W.heap.size W w' := fun W => by rw [← hR]; exact L1 W
        clear C L1 hm p1 p2 p3 q1 hl h45 h93 HR hR
        generalize bsT r.tail = B at *
        go_enter Try.func27, Try.ntmps27
        go_wp2_with (first
          | (go_at_call 23; (with_reducible refine (L2 _).mono ?_); rintro e w1 ⟨rfl, hb⟩; have HB := Lib.hid hb; clear hb)
          | (go_at_call 25; (with_reducible refine (C2 _).mono ?_); rintro e w2 ⟨rfl, rfl⟩)
          | (go_at_call 26; (with_reducible refine (D _).mono ?_); rintro e w3 ⟨rfl, rfl⟩))
        exact bodyPost_ret (v := .tuple #[.int .u8 a.toNat, .int .u8 a.toNat, .string R, .bool true]) (by simp [results, Try.results27, go_sem]) rfl (HQ.out _ _ _ _ HM.out HRR.out.symm HB.out)
      · rw [decide_eq_false h93] at D
        rw [if_pos ⟨h45, h93⟩] at hm
        have C2 : ∀ W, Calls Try.prog 25 #[.string R, .string ⟨#[45]⟩] W fun e w' => e = .returned (.tuple #[.string (bsT r.tail), .bool true]) ∧ w' = W := fun W => by rw [← hR]; exact C W
        have L2 : ∀ W, Calls Try.prog 23 #[.string s] W fun e w' => e = .returned (.tuple #[.int .u8 a.toNat, .string R, .bool true]) ∧ Below W.heap.size W w' := fun W => by rw [← hR]; exact L1 W
        cases hl2 : litL r.tail with
        | none =>
          rw [hl2] at hm
          have HM := Lib.hid hm
          have L3 := fun W => (lit_any (bsT r.tail) W).mono (fun e w' hp => litP_none (by rw [bytesOf]; exact hl2) hp)
          clear C L1 hm p1 p2 p3 q1 hl h45 h93 HR hR hl2
          generalize bsT r.tail = B at *
          go_enter Try.func27, Try.ntmps27
          go_wp2_with (first
            | (go_at_call 23; (with_reducible refine (L2 _).mono ?_); rintro e w1 ⟨rfl, hb⟩; have HB := Lib.hid hb; clear hb L2)
            | (go_at_call 25; (with_reducible refine (C2 _).mono ?_); rintro e w2 ⟨rfl, rfl⟩)
            | (go_at_call 26; (with_reducible refine (D _).mono ?_); rintro e w3 ⟨rfl, rfl⟩)
            | (go_at_call 23; (with_reducible refine (L3 _).mono ?_); rintro e w4 ⟨rfl, hb⟩; have HB4 := Lib.hid (HB.out.trans (hb.mono HB.out.size)); clear hb))
          exact bodyPost_ret (v := .tuple #[.int .u8 a.toNat, .int .u8 0, .string ⟨#[]⟩, .bool false]) (by simp [results, Try.results27, go_sem]) rfl (HN.out _ _ _ _ HM.out HB4.out)
        | some y =>
          obtain ⟨b, v⟩ := y
          rw [hl2] at hm
          have HM := Lib.hid hm
          have L3 := fun W => (lit_any (bsT r.tail) W).mono (fun e w' hp => litP_some (by rw [bytesOf]; exact hl2) hp)
          have HV := Lib.hid (show bsT v = bsT v from rfl)
          clear C L1 hm p1 p2 p3 q1 hl h45 h93 HR hR hl2
          generalize bsT r.tail = B at *
          obtain ⟨V, hV⟩ : ∃ V, bsT v = V := ⟨_, rfl⟩
          have HVV := Lib.hid hV
          have L4 : ∀ W, Calls Try.prog 23 #[.string B] W fun e w' => e = .returned (.tuple #[.int .u8 b.toNat, .string V, .bool true]) ∧ Below W.heap.size W w' := fun W => by rw [← hV]; exact L3 W
          clear L3 hV HV
          go_enter Try.func27, Try.ntmps27
          go_wp2_with (first
            | (go_at_call 23; (with_reducible refine (L2 _).mono ?_); rintro e w1 ⟨rfl, hb⟩; have HB := Lib.hid hb; clear hb L2)
            | (go_at_call 25; (with_reducible refine (C2 _).mono ?_); rintro e w2 ⟨rfl, rfl⟩)
            | (go_at_call 26; (with_reducible refine (D _).mono ?_); rintro e w3 ⟨rfl, rfl⟩)
            | (go_at_call 23; (with_reducible refine (L4 _).mono ?_); rintro e w4 ⟨rfl, hb⟩; have HB4 := Lib.hid (HB.out.trans (hb.mono HB.out.size)); clear hb))
          exact bodyPost_ret (v := .tuple #[.int .u8 a.toNat, .int .u8 b.toNat, .string V, .bool true]) (by simp [results, Try.results27, go_sem]) rfl (HQ.out _ _ _ _ HM.out HVV.out.symm HB4.out)
    · rw [p3 h45, decide_eq_false h45] at C
      rw [if_neg (fun h => h45 h.1)] at hm
      have HM := Lib.hid hm
      have C2 : ∀ W, Calls Try.prog 25 #[.string R, .string ⟨#[45]⟩] W fun e w' => e = .returned (.tuple #[.string R, .bool false]) ∧ w' = W := fun W => by rw [← hR]; exact C W
      have L2 : ∀ W, Calls Try.prog 23 #[.string s] W fun e w' => e = .returned (.tuple #[.int .u8 a.toNat, .string R, .bool true]) ∧ Below W.heap.size W w' := fun W => by rw [← hR]; exact L1 W
      clear C L1 hm p1 p2 p3 hl h45 HR hR
      go_enter Try.func27, Try.ntmps27
      go_wp2_with (first
        | (go_at_call 23; (with_reducible refine (L2 _).mono ?_); rintro e w1 ⟨rfl, hb⟩; have HB := Lib.hid hb; clear hb)
        | (go_at_call 25; (with_reducible refine (C2 _).mono ?_); rintro e w2 ⟨rfl, rfl⟩))
      exact bodyPost_ret (v := .tuple #[.int .u8 a.toNat, .int .u8 a.toNat, .string R, .bool true]) (by simp [results, Try.results27, go_sem]) rfl (HQ.out _ _ _ _ HM.out HRR.out.symm HB.out)
end Go.Proofs.Ytapdmlejgakhaaa
