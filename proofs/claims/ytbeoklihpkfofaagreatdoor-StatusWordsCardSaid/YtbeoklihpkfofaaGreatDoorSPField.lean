/-
  A cut at a byte: what version's texts have of it already (a seat that holds both version and stanza). The program's iterator over a text's lines: for every loop body; its two ways to an end. The program's rightText and Field: what each returns; nothing old turns.
-/
import Derived.Test.YtbeoklihpkfofaaGreatDoorQPRight
import Derived.Test.YtbeoklihpkfofaaGreatDoorSSplit
import Derived.RangeFuncBox
import Derived.RangeFuncNested
import Derived.RangeFuncBound
import Derived.RangeFuncCalls
import Derived.RangeFuncLeaves
import Derived.Shelf.Abstract
import Derived.Shelf.RegionOpen
import Derived.OwnWalkIn
import Derived.TacticsInMore
import Derived.LoopNIn
import Derived.LoopIn
import Derived.Test.YtbeoklihpkfofaaGreatDoorSPA

namespace Go.Proofs.YtbeoklihpkfofaaGreatDoor
open Go.RowKit Go.Shelf
attribute [local go_sem] Oper.semAt_some
/-- A line and its number, as a round is handed them. -/
abbrev LineX := { x : Nat × ByteArray // x.1 ≤ 100000 ∧ x.2.size ≤ 100000 }
def lnOf (x : LineX) : Bs := x.1.2.data.toList
def encLn (x : LineX) : Array Value := #[.int .i64 x.1.1, .string x.1.2]
/-- All lines have come, in their order. -/
def AllLn (s : Bs) (ys : List LineX) : Prop := ys.map lnOf = spl 10 s ∧ ∀ (j : Nat) x, ys[j]? = some x → x.1.1 = j
/-- A part has come. -/
def SomeLn (s : Bs) (ys : List LineX) : Prop := ys.map lnOf <+: spl 10 s ∧ ∀ (j : Nat) x, ys[j]? = some x → x.1.1 = j
theorem number_snoc {pre : List LineX} {x : LineX} (h : ∀ (j : Nat) y, pre[j]? = some y → y.1.1 = j) (hx : x.1.1 = pre.length) : ∀ (j : Nat) y, (pre ++ [x])[j]? = some y → y.1.1 = j := by
  intro j y hj
  by_cases hl : j < pre.length
  · rw [List.getElem?_append_left hl] at hj; exact h j y hj
  · rw [List.getElem?_append_right (by omega)] at hj
    have : j - pre.length = 0 := by
      have := (List.getElem?_eq_some_iff.1 hj).1
      simp at this; omega
    rw [this] at hj
    cases hj
    rw [hx]; omega
/-- Where the loop stands. -/
def AtLn (s : Bs) (pre : List LineX) (R : ByteArray) (more : Bool) : Prop :=
  (∀ (j : Nat) y, pre[j]? = some y → y.1.1 = j) ∧ (more = true → spl 10 s = pre.map lnOf ++ spl 10 R.data.toList) ∧ (more = false → spl 10 s = pre.map lnOf)
theorem AtLn.start (s : ByteArray) : AtLn s.data.toList [] s true := ⟨fun j y h => by simp at h, fun _ => rfl, fun h => by cases h⟩
theorem AtLn.last {s : Bs} {pre : List LineX} {R : ByteArray} (h : AtLn s pre R true) (hf : firstI 10 R.data.toList = -1) (x : LineX) (hx : x.1.1 = pre.length) (hr : x.1.2 = R) (R' : ByteArray) : AtLn s (pre ++ [x]) R' false := by
  refine ⟨number_snoc h.1 hx, (fun g => by cases g), fun _ => ?_⟩
  rw [h.2.1 rfl, spl_no 10 _ (firstI_neg.1 (by omega)), List.map_append]
  simp [lnOf, hr]
theorem first_not {l : Bs} {c : UInt8} {k : Nat} (h : firstI c l = k) (hk : k < l.length) : c ∉ l.take k ∧ l = l.take k ++ c :: l.drop (k + 1) := by
  have hm : c ∈ l := Decidable.of_not_not fun g => by rw [firstI_no g] at h; omega
  unfold firstI at h
  rw [if_pos hm] at h
  have hk' : (l.takeWhile fun x => decide (x ≠ c)).length = k := by omega
  have e : l.take k = l.takeWhile fun x => decide (x ≠ c) := by
    rw [← hk']; exact (List.prefix_iff_eq_take.1 (List.takeWhile_prefix _)).symm
  constructor
  · rw [e]
    intro g
    have := List.all_eq_true.1 (List.all_takeWhile (p := fun x => decide (x ≠ c)) (l := l)) c g
    simp at this
  · have hc : l[k] = c := by
      have h2 : ∀ (l : Bs) (h : (l.takeWhile fun x => decide (x ≠ c)).length < l.length), l[(l.takeWhile fun x => decide (x ≠ c)).length] = c := by
        intro l
        induction l with
        | nil => intro h; simp at h
        | cons y l ih =>
          intro h
          by_cases hy : y = c
          · subst hy; simp
          · simp only [List.takeWhile_cons, hy, ne_eq, not_false_eq_true, decide_true, if_true, List.length_cons, List.getElem_cons_succ] at h ⊢
            exact ih (Nat.lt_of_succ_lt_succ h)
      have := h2 l (by rw [hk']; exact hk)
      simp only [hk'] at this
      exact this
    rw [← hc, ← List.drop_eq_getElem_cons hk, List.take_append_drop]
theorem AtLn.next {s : Bs} {pre : List LineX} {R : ByteArray} (h : AtLn s pre R true) {k : Nat} (hf : firstI 10 R.data.toList = k) (hk : k < R.size) (x : LineX) (hx : x.1.1 = pre.length) (hr : x.1.2 = R.extract 0 k) : AtLn s (pre ++ [x]) (R.extract (k + 1) R.size) true := by
  obtain ⟨h1, h2⟩ := first_not hf (by rw [← sizeOf]; exact hk)
  refine ⟨number_snoc h.1 hx, fun _ => ?_, fun g => by cases g⟩
  have e1 : (R.extract 0 k).data.toList = R.data.toList.take k := by rw [extL]; simp
  have e2 : (R.extract (k + 1) R.size).data.toList = R.data.toList.drop (k + 1) := by rw [extL, List.take_of_length_le (by rw [List.length_drop, ← sizeOf]; omega)]
  have e3 : spl 10 R.data.toList = R.data.toList.take k :: spl 10 (R.data.toList.drop (k + 1)) := by
    conv => lhs; rw [h2]
    exact spl_at 10 _ _ h1
  rw [h.2.1 rfl, e3, List.map_append, e2]
  simp [lnOf, hr]
theorem AtLn.len {s : ByteArray} {pre : List LineX} {R : ByteArray} (h : AtLn s.data.toList pre R true) : pre.length < s.size + 1 := by
  have h1 := spl_len 10 s.data.toList
  rw [h.2.1 rfl, List.length_append, List.length_map] at h1
  have h2 := List.length_pos_iff.2 (spl_ne 10 R.data.toList)
  rw [sizeOf]; omega
theorem AtLn.all {s : Bs} {pre : List LineX} {R : ByteArray} (h : AtLn s pre R false) : AllLn s pre := ⟨(h.2.2 rfl).symm, h.1⟩
theorem AtLn.some {s : Bs} {pre : List LineX} {R : ByteArray} {m : Bool} (h : AtLn s pre R m) : SomeLn s pre := by
  refine ⟨?_, h.1⟩
  cases m
  · rw [h.2.2 rfl]; exact List.prefix_rfl
  · rw [h.2.1 rfl]; exact List.prefix_append _ _
theorem drew_grown (W : World) (q : Nat) : W.grownBy (W.drewN q) none := ⟨rfl, rfl, rfl, Nat.le_refl _, fun _ _ _ => rfl⟩
set_option maxRecDepth 100000 in
set_option maxHeartbeats 4000000 in
theorem lines1_in (n : Nat) (hn : 1 ≤ n) (s : ByteArray) (hs : s.size ≤ 90000) (l Bn : Nat) (Kp : World → World → Prop) (J Jx : List LineX → World → Prop) (B : Nat) (hJ : AbidesFrom B J)
    (hY : ∀ pre x W, J pre W → pre.length < s.size + 1 → YieldAt Fence.wide (n - 1) Tryz.prog l (encLn x) W fun e W' =>
      (e = .returned (.bool true) ∧ J (pre ++ [x]) W' ∧ Kp W W') ∨ (e = .returned (.bool false) ∧ Jx (pre ++ [x]) W'))
    (W : World) (hBn : W.cell? ⟨Bn, 0, none⟩ = some (.string s)) (h0 : J [] W) :
    CallsIn Fence.wide n Tryz.prog 182 #[.func (.yield l) #[] #[], .pointer (some ⟨Bn, 0, none⟩)] W fun e W' => (∃ v, e = .returned v) ∧
      ((∃ ys, AllLn s.data.toList ys ∧ J ys W') ∨ (∃ pre, SomeLn s.data.toList pre ∧ Jx pre W')) := by
  refine callsIn_of_wp Tryz.func182 rfl trivial ?_ rfl
  simp only [Tryz.ntmps182, List.size_toArray, List.length_cons, List.length_nil, Nat.reduceAdd, Nat.reduceSub, Array.replicate_succ, Array.replicate_zero, List.push_toArray, List.append_toArray, List.nil_append, List.cons_append]
  gi_wp2
  gi_loopw [3, 4, 5] (fun r m i wr => ∃ (pre : List LineX) (R : ByteArray) (more : Bool), r = .string R ∧ m = .bool more ∧ i = .int .i64 (pre.length : Nat) ∧ R.size ≤ s.size ∧ pre.length ≤ s.size + 1 ∧ Hid (AtLn s.data.toList pre R more) ∧ Hid (J pre wr)) (fun r m _ _ => match r, m with | .string R, .bool true => R.size + 1 | _, _ => 0)
  case atStart => exact ⟨[], s, true, rfl, rfl, rfl, Nat.le_refl _, by simp, Lib.hid (AtLn.start s), Lib.hid h0⟩
  case round =>
    obtain ⟨pre, R, more, rfl, rfl, rfl, hR, hp, H, HJ⟩ := hrel
    cases more with
    | false =>
      gi_wp2
      go_end0
      exact ⟨⟨_, rfl⟩, .inl ⟨pre, H.out.all, HJ.out⟩⟩
    | true =>
      have hlen := H.out.len
      have hR1 : R.size ≤ 100000 := by omega
      have hp1 : pre.length ≤ 100000 := by omega
      rcases first_cases R 10 with hf | ⟨k, hf, hk⟩
      · have C : ∀ w, Calls Tryz.prog 123 #[.string R, .string ⟨#[10]⟩] w fun e w' => e = .returned (.tuple #[.string R, .string ⟨#[]⟩, .bool false]) ∧ ∃ q, w' = w.drewN q := fun w => (cut1_any R (by omega) 10 w).mono fun e w' hp => by
          obtain ⟨hq, ⟨_, he⟩ | ⟨j, hj, _⟩⟩ := hp
          · exact ⟨he, hq⟩
          · omega
        have HN : Hid (AtLn s.data.toList (pre ++ [⟨(pre.length, R), hp1, hR1⟩]) ⟨#[]⟩ false) := Lib.hid (H.out.last hf _ rfl rfl _)
        clear hf H
        gi_wp2_with (refine ⟨trivial, ?_⟩; gi_at_call 123; refine (callsIn_wide.2 (C _)).mono ?_; rintro e w1 ⟨rfl, q, rfl⟩; obtain ⟨fn, tmps, assign, body, hy, hRd⟩ := hY pre ⟨(pre.length, R), hp1, hR1⟩ (wr.drewN q) (hJ _ _ _ none HJ.out (drew_grown _ _) (fun r e => by cases e)) hlen; dsimp only [encLn] at hy)
        refine hRd.mono ?_
        rintro e W3 (⟨rfl, hJ3, _⟩ | ⟨rfl, hJx3⟩)
        · gi_wp2
          go_roundw
          case rel => exact ⟨pre ++ [⟨(pre.length, R), hp1, hR1⟩], ⟨#[]⟩, false, rfl, rfl, by simp, Nat.zero_le _, by simp; omega, HN, Lib.hid hJ3⟩
          case measure => simp
        · gi_wp2
          refine bodyPost_ret (results_none rfl _ _ _) rfl ?_
          exact ⟨⟨_, rfl⟩, .inr ⟨pre ++ [⟨(pre.length, R), hp1, hR1⟩], HN.out.some, hJx3⟩⟩
      · have C : ∀ w, Calls Tryz.prog 123 #[.string R, .string ⟨#[10]⟩] w fun e w' => e = .returned (.tuple #[.string (R.extract 0 k), .string (R.extract (k + 1) R.size), .bool true]) ∧ ∃ q, w' = w.drewN q := fun w => (cut1_any R (by omega) 10 w).mono fun e w' hp => by
          obtain ⟨hq, ⟨h', _⟩ | ⟨j, hj, _, he⟩⟩ := hp
          · omega
          · obtain rfl : j = k := by omega
            exact ⟨he, hq⟩
        have hx1 : (R.extract 0 k).size ≤ 100000 := by rw [ByteArray.size_extract]; omega
        have HN : Hid (AtLn s.data.toList (pre ++ [⟨(pre.length, R.extract 0 k), hp1, hx1⟩]) (R.extract (k + 1) R.size) true) := Lib.hid (H.out.next hf hk _ rfl rfl)
        clear hf H
        gi_wp2_with (refine ⟨trivial, ?_⟩; gi_at_call 123; refine (callsIn_wide.2 (C _)).mono ?_; rintro e w1 ⟨rfl, q, rfl⟩; obtain ⟨fn, tmps, assign, body, hy, hRd⟩ := hY pre ⟨(pre.length, R.extract 0 k), hp1, hx1⟩ (wr.drewN q) (hJ _ _ _ none HJ.out (drew_grown _ _) (fun r e => by cases e)) hlen; dsimp only [encLn] at hy)
        refine hRd.mono ?_
        rintro e W3 (⟨rfl, hJ3, _⟩ | ⟨rfl, hJx3⟩)
        · gi_wp2
          go_roundw
          case rel => exact ⟨pre ++ [⟨(pre.length, R.extract 0 k), hp1, hx1⟩], R.extract (k + 1) R.size, true, rfl, rfl, by simp, by rw [ByteArray.size_extract]; omega, by simp; omega, HN, Lib.hid hJ3⟩
          case measure => simp only [ByteArray.size_extract]; omega
        · gi_wp2
          refine bodyPost_ret (results_none rfl _ _ _) rfl ?_
          exact ⟨⟨_, rfl⟩, .inr ⟨pre ++ [⟨(pre.length, R.extract 0 k), hp1, hx1⟩], HN.out.some, hJx3⟩⟩
/-- lines(s): the text is boxed; the function value captures the box. -/
theorem lines_in (n : Nat) (s : ByteArray) (w : World) : CallsIn Fence.wide n Tryz.prog 148 #[.string s] w fun e w' => e = .returned (.func (.func 182) #[] #[.pointer (some ⟨w.heap.size, 0, none⟩)]) ∧ w' = w.alloc (.cells #[.string s] 9) := by
  refine callsIn_of_wp Tryz.func148 rfl trivial ?_ rfl
  simp only [Tryz.ntmps148, List.size_toArray, List.length_cons, List.length_nil, Nat.reduceAdd, Nat.reduceSub, Array.replicate_succ, Array.replicate_zero, List.push_toArray, List.append_toArray, List.nil_append, List.cons_append]
  gi_wp2
  go_ret
  exact ⟨rfl, rfl⟩
theorem lines_stops (n : Nat) (hn : 1 ≤ n) (Kp : World → World → Prop) (s : ByteArray) (hs : s.size ≤ 90000) (Bn : Nat) (w : World) (hBn : Bn < w.heap.size) (hc : w.cell? ⟨Bn, 0, none⟩ = some (.string s)) :
    SeqStopsK Fence.wide n Tryz.prog 182 #[.pointer (some ⟨Bn, 0, none⟩)] encLn Kp (AllLn s.data.toList) (SomeLn s.data.toList) (s.size + 1) w := fun l J Jx W hW hJ _ hY h0 =>
  lines1_in n hn s hs l Bn Kp J Jx _ hJ hY W ((hW.cell (p := ⟨Bn, 0, none⟩) hBn).trans hc) h0
end Go.Proofs.YtbeoklihpkfofaaGreatDoor
namespace Go.Proofs.YtbeoklihpkfofaaGreatDoor
open Go.RowKit Go.Shelf
attribute [local go_sem] Oper.semAt_some
theorem txB_is (c : UInt8) (h : ¬ c = 10) : txB c = prB c := by
  have : ¬ c.toNat = 10 := fun g => h (UInt8.toNat_inj.1 g)
  unfold txB prB; rw [decide_eq_false this]; rfl
theorem text_lines (s : Bs) : s.all txB = (spl 10 s).all fun p => p.all prB := by
  induction s with
  | nil => rfl
  | cons x s ih =>
    rw [spl_cons, List.all_cons, ih]
    by_cases h : x = 10
    · subst h; simp [txB]
    · rw [if_neg h, txB_is x h]
      have hne := spl_ne 10 s
      cases hs : spl 10 s with
      | nil => exact absurd hs hne
      | cons p ps => simp [glue, Bool.and_assoc]
def textB (t : Bs) : Bool := decide (t.length ≤ 65536) && t.all txB && linesB (spl 10 t)
theorem field_parts (n t : Bs) : fieldB (n, t) = (snameB n && textB t) := by
  rw [field_is]; unfold snameB textB
  rw [Bool.eq_iff_iff]
  simp only [Bool.and_eq_true]
  exact ⟨fun ⟨⟨⟨⟨⟨⟨a, b⟩, c⟩, d⟩, e⟩, f⟩, g⟩ => ⟨⟨⟨⟨a, b⟩, d⟩, e⟩, ⟨c, f⟩, g⟩, fun ⟨⟨⟨⟨a, b⟩, d⟩, e⟩, ⟨c, f⟩, g⟩ => ⟨⟨⟨⟨⟨⟨a, b⟩, c⟩, d⟩, e⟩, f⟩, g⟩⟩
def okLn (x : LineX) : Bool := (lnOf x).all prB && lineAt x.1.1 (lnOf x)
theorem text_yes {s : Bs} {ys : List LineX} (h : AllLn s ys) (hok : ys.all okLn = true) (hl : s.length ≤ 65536) : textB s = true := by
  have hk := List.all_eq_true.1 hok
  unfold textB
  rw [decide_eq_true hl, text_lines, ← h.1]
  simp only [Bool.true_and, Bool.and_eq_true]
  constructor
  · rw [List.all_eq_true]
    intro p hp
    obtain ⟨x, hx, rfl⟩ := List.mem_map.1 hp
    have := hk x hx
    unfold okLn at this
    rw [Bool.and_eq_true] at this; exact this.1
  · have hne : ys.map lnOf ≠ [] := by rw [h.1]; exact spl_ne _ _
    rw [linesB_at _ hne]
    intro j hj
    have hj' : j < ys.length := by simpa using hj
    have h1 := hk ys[j] (List.getElem_mem hj')
    have h2 := h.2 j ys[j] (List.getElem?_eq_getElem hj')
    unfold okLn at h1
    rw [Bool.and_eq_true, h2] at h1
    rw [List.getElem_map]; exact h1.2
theorem text_no {s : Bs} {ys : List LineX} (h : SomeLn s ys) (hno : ys.all okLn = false) : textB s = false := by
  rw [List.all_eq_false] at hno
  obtain ⟨x, hx, hb⟩ := hno
  obtain ⟨j, hj, rfl⟩ := List.mem_iff_getElem.1 hx
  have hi := h.2 j ys[j] (List.getElem?_eq_getElem hj)
  have hjs : j < (spl 10 s).length := by have := h.1.length_le; simp at this; omega
  have he : (spl 10 s)[j] = lnOf ys[j] := by
    have := h.1.getElem (i := j) (by simpa using hj)
    rw [← this, List.getElem_map]
  unfold okLn at hb
  unfold textB
  by_cases h1 : (lnOf ys[j]).all prB = true
  · have h2 : lineAt j (spl 10 s)[j] = false := by
      rw [h1, Bool.true_and, hi, ← he] at hb; simpa using hb
    rw [linesB_no (spl_ne _ _) hjs h2, Bool.and_false]
  · have : s.all txB = false := by
      rw [text_lines, List.all_eq_false]
      exact ⟨_, List.getElem_mem hjs, by rw [he]; exact h1⟩
    rw [this, Bool.and_false, Bool.false_and]
theorem pre32 (l : Bs) : Lib.hasPrefix l [32] = decide (l.head? = some 32) := by
  cases l with
  | nil => rfl
  | cons c l =>
    show Lib.hasPrefix (c :: l) [32] = decide (some c = some 32)
    by_cases h : c = 32
    · subst h; simp [Lib.hasPrefix, List.isPrefixOf]
    · have : ¬ 32 = c := fun g => h g.symm
      simp [Lib.hasPrefix, List.isPrefixOf, h, this]
theorem suf32 (l : Bs) : Lib.hasSuffix l [32] = decide (l.getLast? = some 32) := by
  unfold Lib.hasSuffix
  rw [Bool.eq_iff_iff, List.isSuffixOf_iff_suffix, decide_eq_true_eq]
  constructor
  · rintro ⟨t, rfl⟩; simp
  · intro h
    obtain ⟨t, ht⟩ := List.getLast?_eq_some_iff.1 h
    exact ⟨t, ht.symm⟩
theorem prefix_any (s : ByteArray) (w : World) : Calls Tryz.prog 117 #[.string s, .string ⟨#[32]⟩] w fun e w' => e = .returned (.bool (decide (s.data.toList.head? = some 32))) ∧ w = w' :=
  (Tryz.strings_HasPrefix s ⟨#[32]⟩ w).mono fun _ _ h => ⟨by rw [h.1]; exact congrArg (fun b => Ending.returned (.bool b)) (pre32 _), h.2.symm⟩
theorem suffix_any (s : ByteArray) (hs : s.size ≤ 100000) (w : World) : Calls Tryz.prog 205 #[.string s, .string ⟨#[32]⟩] w fun e w' => e = .returned (.bool (decide (s.data.toList.getLast? = some 32))) ∧ w = w' :=
  (Tryz.strings_HasSuffix s ⟨#[32]⟩ w (by omega)).mono fun _ _ h => ⟨by rw [h.1]; exact congrArg (fun b => Ending.returned (.bool b)) (suf32 _), h.2.symm⟩
set_option maxRecDepth 100000 in
set_option maxHeartbeats 8000000 in
theorem rightText_any (s : ByteArray) (hs : s.size ≤ 90000) (w : World) : Calls Tryz.prog 180 #[.string s] w fun e w' => e = .returned (.bool (textB s.data.toList)) ∧ Below w.heap.size w w' := by
  obtain ⟨R, HR⟩ : ∃ R, Hid (textB s.data.toList = R) := ⟨_, rfl⟩
  rw [HR.out]
  have hl := sizeOf s
  by_cases h6 : 65536 < s.size
  · have HF : Hid (false = R) := Lib.hid (by rw [← HR.out]; unfold textB; rw [decide_eq_false (by omega)]; rfl)
    clear HR hl
    go_enter Tryz.func180, Tryz.ntmps180
    go_wp2
    exact bodyPost_ret (v := .bool false) (by simp [results, Tryz.results180, go_sem]) rfl ⟨retb HF.out, (Below.refl _ _).alloc (Nat.le_refl _) _⟩
  · have HY : Hid (∀ ys, AllLn s.data.toList ys → ys.all okLn = true → true = R) := Lib.hid (fun ys h1 h2 => by rw [← HR.out]; exact (text_yes h1 h2 (by omega)).symm)
    have HN : Hid (∀ ys, SomeLn s.data.toList ys → ys.all okLn = false → false = R) := Lib.hid (fun ys h1 h2 => by rw [← HR.out]; exact (text_no h1 h2).symm)
    clear HR hl
    refine (callsIn_wide (n := 5)).1 ?_
    refine callsIn_of_wp_marks Tryz.func180 rfl trivial ?_ rfl
    simp only [Tryz.ntmps180, List.size_toArray, List.length_cons, List.length_nil, Nat.reduceAdd, Nat.reduceSub, Array.replicate_succ, Array.replicate_zero, List.push_toArray, List.append_toArray, List.nil_append, List.cons_append]
    have hd6 : decide (65536 < (s.size : Int)) = false := decide_eq_false (by omega)
    gi_wp2_with (refine ⟨trivial, ?_⟩; gi_at_call 148; refine (lines_in _ _ _).mono ?_; rintro e w' ⟨rfl, rfl⟩)
    have bN : ((w.alloc (.cells #[.bool false] 4)).alloc (.cells #[.string s] 9)).cell? ⟨w.heap.size + 1, 0, none⟩ = some (.string s) := by
      simp
    have bR : ((w.alloc (.cells #[.bool false] 4)).alloc (.cells #[.string s] 9)).cell? ⟨w.heap.size, 0, none⟩ = some (.bool false) := by
      rw [((Below.refl (w.alloc (.cells #[.bool false] 4)).heap.size _).alloc (Nat.le_refl _) _).cell (p := ⟨w.heap.size, 0, none⟩) (by simp)]
      simp [World.cell?_alloc_new]
    have hB0 : Below w.heap.size w ((w.alloc (.cells #[.bool false] 4)).alloc (.cells #[.string s] 9)) := ((Below.refl _ w).alloc (Nat.le_refl _) _).alloc (by simp) _
    refine wpIn_rangeFunc_ownG rfl (by omega) (gf := 182) (lb := #[.pointer (some ⟨w.heap.size + 1, 0, none⟩)]) rfl trivial (enters_of Tryz.func182 (by kernel_rfl) rfl)
      (lines_stops _ (by omega) (Below w.heap.size) s hs (w.heap.size + 1) _ (by simp) bN) belowK_t (belowK_b (by simp; omega)) (Below.refl _ _) (fun _ => rfl)
      (fun pre W => pre.all okLn = true ∧ (W.cell? ⟨w.heap.size, 0, none⟩ = some (.bool false) ∧ W.frozen? ⟨w.heap.size, 0, none⟩ = false) ∧ Below w.heap.size w W)
      (fun c pre W => c = .ret ∧ pre.all okLn = false ∧ W.cell? ⟨w.heap.size, 0, none⟩ = some (.bool false) ∧ Below w.heap.size w W)
      (fun s A B row hs hg hr => ⟨hs.1, ⟨cell_kept hs.2.1.1 hg (fun r e => (hr r e).2), (frozen_kept hs.2.1.1 hg (fun r e => (hr r e).2)).trans hs.2.1.2⟩, ownFrom_below (β := Unit) (Nat.le_refl _) (by simp; omega) () A B row hs.2.2 hg hr⟩)
      (fun c s A B row hs hg hr => ⟨hs.1, hs.2.1, cell_kept hs.2.2.1 hg (fun r e => (hr r e).2), ownFrom_below (β := Unit) (Nat.le_refl _) (by simp; omega) () A B row hs.2.2.2 hg hr⟩)
      ⟨rfl, ⟨bR, by simp⟩, hB0⟩
      (fun x => { tmps := #[.string s, undef, .pointer (some ⟨w.heap.size, 0, none⟩), .int .i64 x.1.1, .string x.1.2, .string s, .int .i64 s.size, .bool false, .string s, .func (.func 182) #[] #[.pointer (some ⟨w.heap.size + 1, 0, none⟩)], .int .i64 x.1.1, .string x.1.2, undef, undef, undef, undef, undef, undef, undef, undef, undef, undef, undef, undef, undef, undef, undef, undef, undef, undef, undef, undef, undef], defers := [] }) ?assign ?body ?done ?stop
    case assign =>
      intro l x W K hK
      dsimp only [encLn]
      gi_wp2
      exact hK
    case body =>
      rintro l pre ⟨⟨i, L⟩, hi, hL⟩ W ⟨hok, ⟨hc, hf⟩, hB⟩ hlt
      have hi' : i ≤ 100000 := hi
      have hL' : L.size ≤ 100000 := hL
      have P := fun w => sprintable_any L hL' w
      have S := fun w => suffix_any L hL' w
      have H := fun w => prefix_any L w
      have e0 := emptyT L
      have HNX : Hid (∀ b, okLn ⟨(i, L), hi, hL⟩ = b → (pre ++ [(⟨(i, L), hi, hL⟩ : LineX)]).all okLn = b) := Lib.hid (fun b hb => by rw [List.all_append, hok, List.all_cons, hb]; simp)
      have hokI : okLn ⟨(i, L), hi, hL⟩ = (L.data.toList.all prB && (!(decide (i = 0) && decide (L.data.toList.head? = some 32)) && endB L.data.toList && !(decide (0 < i) && decide (L.data.toList = [])))) := rfl
      have hee : decide (L.data.toList = []) = decide (L.size = 0) := by
        rw [sizeOf]; cases L.data.toList <;> simp
      unfold endB at hokI
      rw [hee] at hokI
      have hB' := hB
      clear hok hlt hee
      dsimp only []
      generalize L.data.toList.all prB = b1 at *
      generalize decide (L.data.toList.getLast? = some 32) = b2 at *
      generalize decide (L.data.toList.head? = some 32) = b3 at *
      generalize decide (L.size = 0) = b4 at *
      cases b1
      · have HG := Lib.hid (HNX.out false (by rw [hokI]; rfl))
        clear hokI HNX
        gi_wp2_with (first | (refine ⟨trivial, ?_⟩; gi_at_call 204; refine (CallsIn.inRound l (callsIn_wide.2 (P _))).mono ?_; rintro e w' ⟨rfl, rfl⟩) | (refine ⟨trivial, ?_⟩; gi_at_call 205; refine (CallsIn.inRound l (callsIn_wide.2 (S _))).mono ?_; rintro e w' ⟨rfl, rfl⟩) | (refine ⟨trivial, ?_⟩; gi_at_call 117; refine (CallsIn.inRound l (callsIn_wide.2 (H _))).mono ?_; rintro e w' ⟨rfl, rfl⟩) | (refine ⟨(trivial : Fence.wide.fn _), ?_⟩))
        exact ⟨(KeepsOthers.setCell _ _ _).from _, rfl, HG.out, World.cell?_setCell_same' _ _ _ (by rw [hc]; rfl), hB.setCell (p := ⟨w.heap.size, 0, none⟩) (Nat.le_refl _) _⟩
      · cases b2
        · by_cases h0 : i = 0
          · cases b3
            · have HG := Lib.hid (HNX.out true (by rw [hokI, h0]; simp))
              subst h0
              clear hokI HNX
              gi_wp2_with (first | (refine ⟨trivial, ?_⟩; gi_at_call 204; refine (CallsIn.inRound l (callsIn_wide.2 (P _))).mono ?_; rintro e w' ⟨rfl, rfl⟩) | (refine ⟨trivial, ?_⟩; gi_at_call 205; refine (CallsIn.inRound l (callsIn_wide.2 (S _))).mono ?_; rintro e w' ⟨rfl, rfl⟩) | (refine ⟨trivial, ?_⟩; gi_at_call 117; refine (CallsIn.inRound l (callsIn_wide.2 (H _))).mono ?_; rintro e w' ⟨rfl, rfl⟩) | (refine ⟨(trivial : Fence.wide.fn _), ?_⟩))
              exact ⟨KeepsFrom.refl _ _, Below.refl _ _, HG.out, ⟨hc, hf⟩, hB⟩
            · have HG := Lib.hid (HNX.out false (by rw [hokI, h0]; simp))
              subst h0
              clear hokI HNX
              gi_wp2_with (first | (refine ⟨trivial, ?_⟩; gi_at_call 204; refine (CallsIn.inRound l (callsIn_wide.2 (P _))).mono ?_; rintro e w' ⟨rfl, rfl⟩) | (refine ⟨trivial, ?_⟩; gi_at_call 205; refine (CallsIn.inRound l (callsIn_wide.2 (S _))).mono ?_; rintro e w' ⟨rfl, rfl⟩) | (refine ⟨trivial, ?_⟩; gi_at_call 117; refine (CallsIn.inRound l (callsIn_wide.2 (H _))).mono ?_; rintro e w' ⟨rfl, rfl⟩) | (refine ⟨(trivial : Fence.wide.fn _), ?_⟩))
              exact ⟨(KeepsOthers.setCell _ _ _).from _, rfl, HG.out, World.cell?_setCell_same' _ _ _ (by rw [hc]; rfl), hB.setCell (p := ⟨w.heap.size, 0, none⟩) (Nat.le_refl _) _⟩
          · have h1 : ((i : Int) == 0) = false := by rw [beq_eq_false_iff_ne]; omega
            have h2 : (0 : Int) < i := by omega
            cases b4
            · have HG := Lib.hid (HNX.out true (by rw [hokI, decide_eq_false h0]; simp))
              clear hokI HNX h0
              gi_wp2_with (first | (refine ⟨trivial, ?_⟩; gi_at_call 204; refine (CallsIn.inRound l (callsIn_wide.2 (P _))).mono ?_; rintro e w' ⟨rfl, rfl⟩) | (refine ⟨trivial, ?_⟩; gi_at_call 205; refine (CallsIn.inRound l (callsIn_wide.2 (S _))).mono ?_; rintro e w' ⟨rfl, rfl⟩) | (refine ⟨trivial, ?_⟩; gi_at_call 117; refine (CallsIn.inRound l (callsIn_wide.2 (H _))).mono ?_; rintro e w' ⟨rfl, rfl⟩) | (refine ⟨(trivial : Fence.wide.fn _), ?_⟩))
              exact ⟨KeepsFrom.refl _ _, Below.refl _ _, HG.out, ⟨hc, hf⟩, hB⟩
            · have HG := Lib.hid (HNX.out false (by rw [hokI, decide_eq_true (p := 0 < i) (by omega)]; simp))
              clear hokI HNX h0
              gi_wp2_with (first | (refine ⟨trivial, ?_⟩; gi_at_call 204; refine (CallsIn.inRound l (callsIn_wide.2 (P _))).mono ?_; rintro e w' ⟨rfl, rfl⟩) | (refine ⟨trivial, ?_⟩; gi_at_call 205; refine (CallsIn.inRound l (callsIn_wide.2 (S _))).mono ?_; rintro e w' ⟨rfl, rfl⟩) | (refine ⟨trivial, ?_⟩; gi_at_call 117; refine (CallsIn.inRound l (callsIn_wide.2 (H _))).mono ?_; rintro e w' ⟨rfl, rfl⟩) | (refine ⟨(trivial : Fence.wide.fn _), ?_⟩))
              exact ⟨(KeepsOthers.setCell _ _ _).from _, rfl, HG.out, World.cell?_setCell_same' _ _ _ (by rw [hc]; rfl), hB.setCell (p := ⟨w.heap.size, 0, none⟩) (Nat.le_refl _) _⟩
        · have HG := Lib.hid (HNX.out false (by rw [hokI]; simp))
          clear hokI HNX
          gi_wp2_with (first | (refine ⟨trivial, ?_⟩; gi_at_call 204; refine (CallsIn.inRound l (callsIn_wide.2 (P _))).mono ?_; rintro e w' ⟨rfl, rfl⟩) | (refine ⟨trivial, ?_⟩; gi_at_call 205; refine (CallsIn.inRound l (callsIn_wide.2 (S _))).mono ?_; rintro e w' ⟨rfl, rfl⟩) | (refine ⟨trivial, ?_⟩; gi_at_call 117; refine (CallsIn.inRound l (callsIn_wide.2 (H _))).mono ?_; rintro e w' ⟨rfl, rfl⟩) | (refine ⟨(trivial : Fence.wide.fn _), ?_⟩))
          exact ⟨(KeepsOthers.setCell _ _ _).from _, rfl, HG.out, World.cell?_setCell_same' _ _ _ (by rw [hc]; rfl), hB.setCell (p := ⟨w.heap.size, 0, none⟩) (Nat.le_refl _) _⟩
    case done =>
      rintro D xs W hD hall ⟨hok, ⟨hc, hf⟩, hB⟩ hK
      have HF := Lib.hid (HY.out xs hall hok)
      clear hall hok HY HN
      gi_wp2
      have hK' := (KeepsOthers.setCell W ⟨w.heap.size, 0, none⟩ (.bool true)).same D _ hK rfl
      refine ⟨by simp, .inl ⟨_, _, rfl, run_takeDeferred hK', ?_⟩⟩
      have hc5 := cell_kept (World.cell?_setCell_same' W ⟨w.heap.size, 0, none⟩ (.bool true) (by rw [hc]; rfl)) (grownBy_putObj' _ D (.deferred none)) (fun r e => by cases e; exact ⟨_, hK', rfl⟩)
      refine ⟨.bool true, ?_, retb HF.out, (hB.setCell (p := ⟨w.heap.size, 0, none⟩) (Nat.le_refl _) _).trans (belowK_b (w := w) (Nat.le_refl _) _ D _ _ (by simp at hD; omega) hK' rfl rfl)⟩
      simp [results, Tryz.f180, go_sem, hc5]
    case stop =>
      rintro D c pre W hD hsome ⟨rfl, hno, hc, hB⟩ hK
      have HF := Lib.hid (HN.out pre hsome hno)
      clear hsome hno HY HN
      gi_wp2
      refine ⟨by simp, .inl ⟨_, _, rfl, run_takeDeferred hK, ?_⟩⟩
      have hc5 := cell_kept hc (grownBy_putObj' _ D (.deferred none)) (fun r e => by cases e; exact ⟨_, hK, rfl⟩)
      refine ⟨.bool false, ?_, retb HF.out, hB.trans (belowK_b (w := w) (Nat.le_refl _) _ D _ _ (by simp at hD; omega) hK rfl rfl)⟩
      simp [results, Tryz.f180, go_sem, hc5]
theorem field_any (n t : ByteArray) (hn : n.size ≤ 90000) (ht : t.size ≤ 90000) (w : World) : Calls Tryz.prog 146 #[.string n, .string t] w fun e w' => e = .returned (.bool (fieldB (n.data.toList, t.data.toList))) ∧ Below w.heap.size w w' := by
  have N := fun w => rightName_any n (by omega) w
  have T := fun w => rightText_any t ht w
  rw [field_parts]
  generalize snameB n.data.toList = b1 at *
  generalize textB t.data.toList = b2 at *
  cases b1
  · clear T
    go_enter Tryz.func146, Tryz.ntmps146
    go_wp2_with (go_at_call 179; refine (N _).mono ?_; rintro e w1 ⟨rfl, rfl⟩)
    go_ret
    exact ⟨rfl, Below.refl _ _⟩
  · rw [Bool.true_and]
    go_enter Tryz.func146, Tryz.ntmps146
    go_wp2_with (first | (go_at_call 179; refine (N _).mono ?_; rintro e w1 ⟨rfl, rfl⟩) | (go_at_call 180; refine (T _).mono ?_; rintro e w1 ⟨rfl, hb⟩; have HB := Lib.hid hb; clear hb))
    go_ret
    exact ⟨rfl, HB.out⟩
end Go.Proofs.YtbeoklihpkfofaaGreatDoor
