/-
  The program's iterator over a text's lines: for every loop body; its two ways to an end.
-/
import Derived.Test.YtoipggglmpcjfaaDoorCut
import Derived.Test.YtoipggglmpcjfaaDoorSSplit
import Derived.RangeFuncBox
import Derived.RangeFuncNested
import Derived.RangeFuncBound
import Derived.RangeFuncCalls
import Derived.RangeFuncLeaves
import Derived.Shelf.Abstract
import Derived.Shelf.RegionOpen
import Derived.OwnWalkIn
import Derived.TacticsInMore
import Derived.LoopNIn
import Derived.LoopIn
namespace Go.Proofs.YtoipggglmpcjfaaDoor
open Go.RowKit Go.Shelf
attribute [local go_sem] Oper.semAt_some
/-- A line and its number, as a round is handed them. -/
abbrev LineX := { x : Nat × ByteArray // x.1 ≤ 100000 ∧ x.2.size ≤ 100000 }
def lnOf (x : LineX) : Bs := x.1.2.data.toList
def encLn (x : LineX) : Array Value := #[.int .i64 x.1.1, .string x.1.2]
/-- All lines have come, in their order. -/
def AllLn (s : Bs) (ys : List LineX) : Prop := ys.map lnOf = spl 10 s ∧ ∀ (j : Nat) x, ys[j]? = some x → x.1.1 = j
/-- A part has come. -/
def SomeLn (s : Bs) (ys : List LineX) : Prop := ys.map lnOf <+: spl 10 s ∧ ∀ (j : Nat) x, ys[j]? = some x → x.1.1 = j
theorem number_snoc {pre : List LineX} {x : LineX} (h : ∀ (j : Nat) y, pre[j]? = some y → y.1.1 = j) (hx : x.1.1 = pre.length) : ∀ (j : Nat) y, (pre ++ [x])[j]? = some y → y.1.1 = j := by
  intro j y hj
  by_cases hl : j < pre.length
  · rw [List.getElem?_append_left hl] at hj; exact h j y hj
  · rw [List.getElem?_append_right (by omega)] at hj
    have : j - pre.length = 0 := by
      have := (List.getElem?_eq_some_iff.1 hj).1
      simp at this; omega
    rw [this] at hj
    cases hj
    rw [hx]; omega
/-- Where the loop stands. -/
def AtLn (s : Bs) (pre : List LineX) (R : ByteArray) (more : Bool) : Prop :=
  (∀ (j : Nat) y, pre[j]? = some y → y.1.1 = j) ∧ (more = true → spl 10 s = pre.map lnOf ++ spl 10 R.data.toList) ∧ (more = false → spl 10 s = pre.map lnOf)
theorem AtLn.start (s : ByteArray) : AtLn s.data.toList [] s true := ⟨fun j y h => by simp at h, fun _ => rfl, fun h => by cases h⟩
theorem AtLn.last {s : Bs} {pre : List LineX} {R : ByteArray} (h : AtLn s pre R true) (hf : firstI 10 R.data.toList = -1) (x : LineX) (hx : x.1.1 = pre.length) (hr : x.1.2 = R) (R' : ByteArray) : AtLn s (pre ++ [x]) R' false := by
  refine ⟨number_snoc h.1 hx, (fun g => by cases g), fun _ => ?_⟩
  rw [h.2.1 rfl, spl_no 10 _ (firstI_neg.1 (by omega)), List.map_append]
  simp [lnOf, hr]
theorem first_not {l : Bs} {c : UInt8} {k : Nat} (h : firstI c l = k) (hk : k < l.length) : c ∉ l.take k ∧ l = l.take k ++ c :: l.drop (k + 1) := by
  have hm : c ∈ l := Decidable.of_not_not fun g => by rw [firstI_no g] at h; omega
  unfold firstI at h
  rw [if_pos hm] at h
  have hk' : (l.takeWhile fun x => decide (x ≠ c)).length = k := by omega
  have e : l.take k = l.takeWhile fun x => decide (x ≠ c) := by
    rw [← hk']; exact (List.prefix_iff_eq_take.1 (List.takeWhile_prefix _)).symm
  constructor
  · rw [e]
    intro g
    have := List.all_eq_true.1 (List.all_takeWhile (p := fun x => decide (x ≠ c)) (l := l)) c g
    simp at this
  · have hc : l[k] = c := by
      have h2 : ∀ (l : Bs) (h : (l.takeWhile fun x => decide (x ≠ c)).length < l.length), l[(l.takeWhile fun x => decide (x ≠ c)).length] = c := by
        intro l
        induction l with
        | nil => intro h; simp at h
        | cons y l ih =>
          intro h
          by_cases hy : y = c
          · subst hy; simp
          · simp only [List.takeWhile_cons, hy, ne_eq, not_false_eq_true, decide_true, if_true, List.length_cons, List.getElem_cons_succ] at h ⊢
            exact ih (Nat.lt_of_succ_lt_succ h)
      have := h2 l (by rw [hk']; exact hk)
      simp only [hk'] at this
      exact this
    rw [← hc, ← List.drop_eq_getElem_cons hk, List.take_append_drop]
theorem AtLn.next {s : Bs} {pre : List LineX} {R : ByteArray} (h : AtLn s pre R true) {k : Nat} (hf : firstI 10 R.data.toList = k) (hk : k < R.size) (x : LineX) (hx : x.1.1 = pre.length) (hr : x.1.2 = R.extract 0 k) : AtLn s (pre ++ [x]) (R.extract (k + 1) R.size) true := by
  obtain ⟨h1, h2⟩ := first_not hf (by rw [← sizeOf]; exact hk)
  refine ⟨number_snoc h.1 hx, fun _ => ?_, fun g => by cases g⟩
  have e1 : (R.extract 0 k).data.toList = R.data.toList.take k := by rw [extL]; simp
  have e2 : (R.extract (k + 1) R.size).data.toList = R.data.toList.drop (k + 1) := by rw [extL, List.take_of_length_le (by rw [List.length_drop, ← sizeOf]; omega)]
  have e3 : spl 10 R.data.toList = R.data.toList.take k :: spl 10 (R.data.toList.drop (k + 1)) := by
    conv => lhs; rw [h2]
    exact spl_at 10 _ _ h1
  rw [h.2.1 rfl, e3, List.map_append, e2]
  simp [lnOf, hr]
theorem AtLn.len {s : ByteArray} {pre : List LineX} {R : ByteArray} (h : AtLn s.data.toList pre R true) : pre.length < s.size + 1 := by
  have h1 := spl_len 10 s.data.toList
  rw [h.2.1 rfl, List.length_append, List.length_map] at h1
  have h2 := List.length_pos_iff.2 (spl_ne 10 R.data.toList)
  rw [sizeOf]; omega
theorem AtLn.all {s : Bs} {pre : List LineX} {R : ByteArray} (h : AtLn s pre R false) : AllLn s pre := ⟨(h.2.2 rfl).symm, h.1⟩
theorem AtLn.some {s : Bs} {pre : List LineX} {R : ByteArray} {m : Bool} (h : AtLn s pre R m) : SomeLn s pre := by
  refine ⟨?_, h.1⟩
  cases m
  · rw [h.2.2 rfl]; exact List.prefix_rfl
  · rw [h.2.1 rfl]; exact List.prefix_append _ _
theorem drew_grown (W : World) (q : Nat) : W.grownBy (W.drewN q) none := ⟨rfl, rfl, rfl, Nat.le_refl _, fun _ _ _ => rfl⟩
set_option maxRecDepth 100000 in
set_option maxHeartbeats 4000000 in
theorem lines1_in (n : Nat) (hn : 1 ≤ n) (s : ByteArray) (hs : s.size ≤ 90000) (l Bn : Nat) (Kp : World → World → Prop) (J Jx : List LineX → World → Prop) (B : Nat) (hJ : AbidesFrom B J)
    (hY : ∀ pre x W, J pre W → pre.length < s.size + 1 → YieldAt Fence.wide (n - 1) Tryd.prog l (encLn x) W fun e W' =>
      (e = .returned (.bool true) ∧ J (pre ++ [x]) W' ∧ Kp W W') ∨ (e = .returned (.bool false) ∧ Jx (pre ++ [x]) W'))
    (W : World) (hBn : W.cell? ⟨Bn, 0, none⟩ = some (.string s)) (h0 : J [] W) :
    CallsIn Fence.wide n Tryd.prog 51 #[.func (.yield l) #[] #[], .pointer (some ⟨Bn, 0, none⟩)] W fun e W' => (∃ v, e = .returned v) ∧
      ((∃ ys, AllLn s.data.toList ys ∧ J ys W') ∨ (∃ pre, SomeLn s.data.toList pre ∧ Jx pre W')) := by
  refine callsIn_of_wp Tryd.func51 rfl trivial ?_ rfl
  simp only [Tryd.ntmps51, List.size_toArray, List.length_cons, List.length_nil, Nat.reduceAdd, Nat.reduceSub, Array.replicate_succ, Array.replicate_zero, List.push_toArray, List.append_toArray, List.nil_append, List.cons_append]
  gi_wp2
  gi_loopw [3, 4, 5] (fun r m i wr => ∃ (pre : List LineX) (R : ByteArray) (more : Bool), r = .string R ∧ m = .bool more ∧ i = .int .i64 (pre.length : Nat) ∧ R.size ≤ s.size ∧ pre.length ≤ s.size + 1 ∧ Hid (AtLn s.data.toList pre R more) ∧ Hid (J pre wr)) (fun r m _ _ => match r, m with | .string R, .bool true => R.size + 1 | _, _ => 0)
  case atStart => exact ⟨[], s, true, rfl, rfl, rfl, Nat.le_refl _, by simp, Lib.hid (AtLn.start s), Lib.hid h0⟩
  case round =>
    obtain ⟨pre, R, more, rfl, rfl, rfl, hR, hp, H, HJ⟩ := hrel
    cases more with
    | false =>
      gi_wp2
      go_end0
      exact ⟨⟨_, rfl⟩, .inl ⟨pre, H.out.all, HJ.out⟩⟩
    | true =>
      have hlen := H.out.len
      have hR1 : R.size ≤ 100000 := by omega
      have hp1 : pre.length ≤ 100000 := by omega
      rcases first_cases R 10 with hf | ⟨k, hf, hk⟩
      · have C : ∀ w, Calls Tryd.prog 52 #[.string R, .string ⟨#[10]⟩] w fun e w' => e = .returned (.tuple #[.string R, .string ⟨#[]⟩, .bool false]) ∧ ∃ q, w' = w.drewN q := fun w => (cut1_any R (by omega) 10 w).mono fun e w' hp => by
          obtain ⟨hq, ⟨_, he⟩ | ⟨j, hj, _⟩⟩ := hp
          · exact ⟨he, hq⟩
          · omega
        have HN : Hid (AtLn s.data.toList (pre ++ [⟨(pre.length, R), hp1, hR1⟩]) ⟨#[]⟩ false) := Lib.hid (H.out.last hf _ rfl rfl _)
        clear hf H
        gi_wp2_with (refine ⟨trivial, ?_⟩; gi_at_call 52; refine (callsIn_wide.2 (C _)).mono ?_; rintro e w1 ⟨rfl, q, rfl⟩; obtain ⟨fn, tmps, assign, body, hy, hRd⟩ := hY pre ⟨(pre.length, R), hp1, hR1⟩ (wr.drewN q) (hJ _ _ _ none HJ.out (drew_grown _ _) (fun r e => by cases e)) hlen; dsimp only [encLn] at hy)
        refine hRd.mono ?_
        rintro e W3 (⟨rfl, hJ3, _⟩ | ⟨rfl, hJx3⟩)
        · gi_wp2
          go_roundw
          case rel => exact ⟨pre ++ [⟨(pre.length, R), hp1, hR1⟩], ⟨#[]⟩, false, rfl, rfl, by simp, Nat.zero_le _, by simp; omega, HN, Lib.hid hJ3⟩
          case measure => simp
        · gi_wp2
          refine bodyPost_ret (results_none rfl _ _ _) rfl ?_
          exact ⟨⟨_, rfl⟩, .inr ⟨pre ++ [⟨(pre.length, R), hp1, hR1⟩], HN.out.some, hJx3⟩⟩
      · have C : ∀ w, Calls Tryd.prog 52 #[.string R, .string ⟨#[10]⟩] w fun e w' => e = .returned (.tuple #[.string (R.extract 0 k), .string (R.extract (k + 1) R.size), .bool true]) ∧ ∃ q, w' = w.drewN q := fun w => (cut1_any R (by omega) 10 w).mono fun e w' hp => by
          obtain ⟨hq, ⟨h', _⟩ | ⟨j, hj, _, he⟩⟩ := hp
          · omega
          · obtain rfl : j = k := by omega
            exact ⟨he, hq⟩
        have hx1 : (R.extract 0 k).size ≤ 100000 := by rw [ByteArray.size_extract]; omega
        have HN : Hid (AtLn s.data.toList (pre ++ [⟨(pre.length, R.extract 0 k), hp1, hx1⟩]) (R.extract (k + 1) R.size) true) := Lib.hid (H.out.next hf hk _ rfl rfl)
        clear hf H
        gi_wp2_with (refine ⟨trivial, ?_⟩; gi_at_call 52; refine (callsIn_wide.2 (C _)).mono ?_; rintro e w1 ⟨rfl, q, rfl⟩; obtain ⟨fn, tmps, assign, body, hy, hRd⟩ := hY pre ⟨(pre.length, R.extract 0 k), hp1, hx1⟩ (wr.drewN q) (hJ _ _ _ none HJ.out (drew_grown _ _) (fun r e => by cases e)) hlen; dsimp only [encLn] at hy)
        refine hRd.mono ?_
        rintro e W3 (⟨rfl, hJ3, _⟩ | ⟨rfl, hJx3⟩)
        · gi_wp2
          go_roundw
          case rel => exact ⟨pre ++ [⟨(pre.length, R.extract 0 k), hp1, hx1⟩], R.extract (k + 1) R.size, true, rfl, rfl, by simp, by rw [ByteArray.size_extract]; omega, by simp; omega, HN, Lib.hid hJ3⟩
          case measure => simp only [ByteArray.size_extract]; omega
        · gi_wp2
          refine bodyPost_ret (results_none rfl _ _ _) rfl ?_
          exact ⟨⟨_, rfl⟩, .inr ⟨pre ++ [⟨(pre.length, R.extract 0 k), hp1, hx1⟩], HN.out.some, hJx3⟩⟩
/-- lines(s): the text is boxed; the function value captures the box. -/
theorem lines_in (n : Nat) (s : ByteArray) (w : World) : CallsIn Fence.wide n Tryd.prog 37 #[.string s] w fun e w' => e = .returned (.func (.func 51) #[] #[.pointer (some ⟨w.heap.size, 0, none⟩)]) ∧ w' = w.alloc (.cells #[.string s] 9) := by
  refine callsIn_of_wp Tryd.func37 rfl trivial ?_ rfl
  simp only [Tryd.ntmps37, List.size_toArray, List.length_cons, List.length_nil, Nat.reduceAdd, Nat.reduceSub, Array.replicate_succ, Array.replicate_zero, List.push_toArray, List.append_toArray, List.nil_append, List.cons_append]
  gi_wp2
  go_ret
  exact ⟨rfl, rfl⟩
theorem lines_stops (n : Nat) (hn : 1 ≤ n) (Kp : World → World → Prop) (s : ByteArray) (hs : s.size ≤ 90000) (Bn : Nat) (w : World) (hBn : Bn < w.heap.size) (hc : w.cell? ⟨Bn, 0, none⟩ = some (.string s)) :
    SeqStopsK Fence.wide n Tryd.prog 51 #[.pointer (some ⟨Bn, 0, none⟩)] encLn Kp (AllLn s.data.toList) (SomeLn s.data.toList) (s.size + 1) w := fun l J Jx W hW hJ _ hY h0 =>
  lines1_in n hn s hs l Bn Kp J Jx _ hJ hY W ((hW.cell (p := ⟨Bn, 0, none⟩) hBn).trans hc) h0
end Go.Proofs.YtoipggglmpcjfaaDoor
