import Derived.Test.YtkbkaeefdhkgdaaGreatDoorPVPParse
import Derived.Test.YtkbkaeefdhkgdaaGreatDoorPSField
import Derived.RangeFuncNested
import Derived.RangeFuncBound
import Derived.Shelf.RegionOpen
import Derived.OwnWalkIn
import Derived.LoopNIn
import Derived.LoopIn
set_option maxRecDepth 100000
set_option maxHeartbeats 32000000
namespace Go.Proofs.YtkbkaeefdhkgdaaGreatDoor
section
open Go.RowKit Go.Shelf
attribute [local go_sem] Oper.semAt_some
abbrev LineX := { x : Nat × ByteArray // x.1 ≤ 100000 ∧ x.2.size ≤ 100000 }
def lnOf (x : LineX) : Bs := x.1.2.data.toList
def encLn (x : LineX) : Array Value := #[.int .i64 x.1.1, .string x.1.2]
def AllLn (s : Bs) (ys : List LineX) : Prop := ys.map lnOf = spl 10 s ∧ ∀ (j : Nat) x, ys[j]? = some x → x.1.1 = j
def SomeLn (s : Bs) (ys : List LineX) : Prop := ys.map lnOf <+: spl 10 s ∧ ∀ (j : Nat) x, ys[j]? = some x → x.1.1 = j
theorem number_snoc {pre : List LineX} {x : LineX} (h : ∀ (j : Nat) y, pre[j]? = some y → y.1.1 = j) (hx : x.1.1 = pre.length) : ∀ (j : Nat) y, (pre ++ [x])[j]? = some y → y.1.1 = j := by
 intro j y hj
 by_cases hl : j < pre.length
 ·
  rw [List.getElem?_append_left hl] at hj; exact h j y hj
 ·
  rw [List.getElem?_append_right (by omega)] at hj
  have : j - pre.length = 0 := by
   have := (List.getElem?_eq_some_iff.1 hj).1
   simp at this; omega
  rw [this] at hj
  cases hj
  rw [hx]; omega
def AtLn (s : Bs) (pre : List LineX) (R : ByteArray) (more : Bool) : Prop :=
 (∀ (j : Nat) y, pre[j]? = some y → y.1.1 = j) ∧ (more = true → spl 10 s = pre.map lnOf ++ spl 10 R.data.toList) ∧ (more = false → spl 10 s = pre.map lnOf)
theorem AtLn.start (s : ByteArray) : AtLn s.data.toList [] s true := ⟨fun j y h => by simp at h, fun _ => rfl, fun h => by cases h⟩
theorem AtLn.last {s : Bs} {pre : List LineX} {R : ByteArray} (h : AtLn s pre R true) (hf : firstI 10 R.data.toList = -1) (x : LineX) (hx : x.1.1 = pre.length) (hr : x.1.2 = R) (R' : ByteArray) : AtLn s (pre ++ [x]) R' false := by
 refine ⟨number_snoc h.1 hx, (fun g => by cases g), fun _ => ?_⟩
 rw [h.2.1 rfl, spl_no 10 _ (firstI_neg.1 (by omega)), List.map_append]
 simp [lnOf, hr]
theorem first_not {l : Bs} {c : UInt8} {k : Nat} (h : firstI c l = k) (hk : k < l.length) : c ∉ l.take k ∧ l = l.take k ++ c :: l.drop (k + 1) := by
 have hm : c ∈ l := Decidable.of_not_not fun g => by rw [firstI_no g] at h; omega
 unfold firstI at h
 rw [if_pos hm] at h
 have hk' : (l.takeWhile fun x => decide (x ≠ c)).length = k := by omega
 have e : l.take k = l.takeWhile fun x => decide (x ≠ c) := by
  rw [← hk']; exact (List.prefix_iff_eq_take.1 (List.takeWhile_prefix _)).symm
 constructor
 ·
  rw [e]
  intro g
  have := List.all_eq_true.1 (List.all_takeWhile (p := fun x => decide (x ≠ c)) (l := l)) c g
  simp at this
 ·
  have hc : l[k] = c := by
   have h2 : ∀ (l : Bs) (h : (l.takeWhile fun x => decide (x ≠ c)).length < l.length), l[(l.takeWhile fun x => decide (x ≠ c)).length] = c := by
    intro l
    induction l with
    | nil => intro h; simp at h
    | cons y l ih =>
     intro h
     by_cases hy : y = c
     ·
      subst hy; simp
     ·
      simp only [List.takeWhile_cons, hy, ne_eq, not_false_eq_true, decide_true, if_true, List.length_cons, List.getElem_cons_succ] at h ⊢
      exact ih (Nat.lt_of_succ_lt_succ h)
   have := h2 l (by rw [hk']; exact hk)
   simp only [hk'] at this
   exact this
  rw [← hc, ← List.drop_eq_getElem_cons hk, List.take_append_drop]
theorem AtLn.next {s : Bs} {pre : List LineX} {R : ByteArray} (h : AtLn s pre R true) {k : Nat} (hf : firstI 10 R.data.toList = k) (hk : k < R.size) (x : LineX) (hx : x.1.1 = pre.length) (hr : x.1.2 = R.extract 0 k) : AtLn s (pre ++ [x]) (R.extract (k + 1) R.size) true := by
 obtain ⟨h1, h2⟩ := first_not hf (by rw [← sizeOf]; exact hk)
 refine ⟨number_snoc h.1 hx, fun _ => ?_, fun g => by cases g⟩
 have e1 : (R.extract 0 k).data.toList = R.data.toList.take k := by rw [extL]; simp
 have e2 : (R.extract (k + 1) R.size).data.toList = R.data.toList.drop (k + 1) := by rw [extL, List.take_of_length_le (by rw [List.length_drop, ← sizeOf]; omega)]
 have e3 : spl 10 R.data.toList = R.data.toList.take k :: spl 10 (R.data.toList.drop (k + 1)) := by
  conv => lhs; rw [h2]
  exact spl_at 10 _ _ h1
 rw [h.2.1 rfl, e3, List.map_append, e2]
 simp [lnOf, hr]
theorem AtLn.len {s : ByteArray} {pre : List LineX} {R : ByteArray} (h : AtLn s.data.toList pre R true) : pre.length < s.size + 1 := by
 have h1 := spl_len 10 s.data.toList
 rw [h.2.1 rfl, List.length_append, List.length_map] at h1
 have h2 := List.length_pos_iff.2 (spl_ne 10 R.data.toList)
 rw [sizeOf]; omega
theorem AtLn.all {s : Bs} {pre : List LineX} {R : ByteArray} (h : AtLn s pre R false) : AllLn s pre := ⟨(h.2.2 rfl).symm, h.1⟩
theorem AtLn.some {s : Bs} {pre : List LineX} {R : ByteArray} {m : Bool} (h : AtLn s pre R m) : SomeLn s pre := by
 refine ⟨?_, h.1⟩
 cases m
 ·
  rw [h.2.2 rfl]; exact List.prefix_rfl
 ·
  rw [h.2.1 rfl]; exact List.prefix_append _ _
theorem drew_grown (W : World) (q : Nat) : W.grownBy (W.drewN q) none := ⟨rfl, rfl, rfl, Nat.le_refl _, fun _ _ _ => rfl⟩
theorem lines1_in (n : Nat) (hn : 1 ≤ n) (s : ByteArray) (hs : s.size ≤ 90000) (l Bn : Nat) (Kp : World → World → Prop) (J Jx : List LineX → World → Prop) (B : Nat) (hJ : AbidesFrom B J)
  (hY : ∀ pre x W, J pre W → pre.length < s.size + 1 → YieldAt Fence.wide (n - 1) Tryz.prog l (encLn x) W fun e W' =>
   (e = .returned (.bool true) ∧ J (pre ++ [x]) W' ∧ Kp W W') ∨ (e = .returned (.bool false) ∧ Jx (pre ++ [x]) W'))
  (W : World) (hBn : W.cell? ⟨Bn, 0, none⟩ = some (.string s)) (h0 : J [] W) :
  CallsIn Fence.wide n Tryz.prog 133 #[.func (.yield l) #[] #[], .pointer (some ⟨Bn, 0, none⟩)] W fun e W' => (∃ v, e = .returned v) ∧
   ((∃ ys, AllLn s.data.toList ys ∧ J ys W') ∨ (∃ pre, SomeLn s.data.toList pre ∧ Jx pre W')) := by
 refine callsIn_of_wp Tryz.func133 rfl trivial ?_ rfl
 simp only [Tryz.ntmps133, List.size_toArray, List.length_cons, List.length_nil, Nat.reduceAdd, Nat.reduceSub, Array.replicate_succ, Array.replicate_zero, List.push_toArray, List.append_toArray, List.nil_append, List.cons_append]
 gi_wp2
 gi_loopw [3, 4, 5] (fun r m i wr => ∃ (pre : List LineX) (R : ByteArray) (more : Bool), r = .string R ∧ m = .bool more ∧ i = .int .i64 (pre.length : Nat) ∧ R.size ≤ s.size ∧ pre.length ≤ s.size + 1 ∧ Hid (AtLn s.data.toList pre R more) ∧ Hid (J pre wr)) (fun r m _ _ => match r, m with | .string R, .bool true => R.size + 1 | _, _ => 0)
 case atStart => exact ⟨[], s, true, rfl, rfl, rfl, Nat.le_refl _, by simp, Lib.hid (AtLn.start s), Lib.hid h0⟩
 case round =>
  obtain ⟨pre, R, more, rfl, rfl, rfl, hR, hp, H, HJ⟩ := hrel
  cases more with
  | false =>
   gi_wp2
   go_end0
   exact ⟨⟨_, rfl⟩, .inl ⟨pre, H.out.all, HJ.out⟩⟩
  | true =>
   have hlen := H.out.len
   have hR1 : R.size ≤ 100000 := by omega
   have hp1 : pre.length ≤ 100000 := by omega
   rcases first_cases R 10 with hf | ⟨k, hf, hk⟩
   ·
    have C : ∀ w, Calls Tryz.prog 123 #[.string R, .string ⟨#[10]⟩] w fun e w' => e = .returned (.tuple #[.string R, .string ⟨#[]⟩, .bool false]) ∧ ∃ q, w' = w.drewN q := fun w => (cut1_any R (by omega) 10 w).mono fun e w' hp => by
     obtain ⟨hq, ⟨_, he⟩ | ⟨j, hj, _⟩⟩ := hp
     ·
      exact ⟨he, hq⟩
     ·
      omega
    have HN : Hid (AtLn s.data.toList (pre ++ [⟨(pre.length, R), hp1, hR1⟩]) ⟨#[]⟩ false) := Lib.hid (H.out.last hf _ rfl rfl _)
    clear hf H
    gi_wp2_with (refine ⟨trivial, ?_⟩; gi_at_call 123; refine (callsIn_wide.2 (C _)).mono ?_; rintro e w1 ⟨rfl, q, rfl⟩; obtain ⟨fn, tmps, assign, body, hy, hRd⟩ := hY pre ⟨(pre.length, R), hp1, hR1⟩ (wr.drewN q) (hJ _ _ _ none HJ.out (drew_grown _ _) (fun r e => by cases e)) hlen; dsimp only [encLn] at hy)
    refine hRd.mono ?_
    rintro e W3 (⟨rfl, hJ3, _⟩ | ⟨rfl, hJx3⟩)
    ·
     gi_wp2
     go_roundw
     case rel => exact ⟨pre ++ [⟨(pre.length, R), hp1, hR1⟩], ⟨#[]⟩, false, rfl, rfl, by simp, Nat.zero_le _, by simp; omega, HN, Lib.hid hJ3⟩
     case measure => simp
    ·
     gi_wp2
     refine bodyPost_ret (results_none rfl _ _ _) rfl ?_
     exact ⟨⟨_, rfl⟩, .inr ⟨pre ++ [⟨(pre.length, R), hp1, hR1⟩], HN.out.some, hJx3⟩⟩
   ·
    have C : ∀ w, Calls Tryz.prog 123 #[.string R, .string ⟨#[10]⟩] w fun e w' => e = .returned (.tuple #[.string (R.extract 0 k), .string (R.extract (k + 1) R.size), .bool true]) ∧ ∃ q, w' = w.drewN q := fun w => (cut1_any R (by omega) 10 w).mono fun e w' hp => by
     obtain ⟨hq, ⟨h', _⟩ | ⟨j, hj, _, he⟩⟩ := hp
     ·
      omega
     ·
      obtain rfl : j = k := by omega
      exact ⟨he, hq⟩
    have hx1 : (R.extract 0 k).size ≤ 100000 := by rw [ByteArray.size_extract]; omega
    have HN : Hid (AtLn s.data.toList (pre ++ [⟨(pre.length, R.extract 0 k), hp1, hx1⟩]) (R.extract (k + 1) R.size) true) := Lib.hid (H.out.next hf hk _ rfl rfl)
    clear hf H
    gi_wp2_with (refine ⟨trivial, ?_⟩; gi_at_call 123; refine (callsIn_wide.2 (C _)).mono ?_; rintro e w1 ⟨rfl, q, rfl⟩; obtain ⟨fn, tmps, assign, body, hy, hRd⟩ := hY pre ⟨(pre.length, R.extract 0 k), hp1, hx1⟩ (wr.drewN q) (hJ _ _ _ none HJ.out (drew_grown _ _) (fun r e => by cases e)) hlen; dsimp only [encLn] at hy)
    refine hRd.mono ?_
    rintro e W3 (⟨rfl, hJ3, _⟩ | ⟨rfl, hJx3⟩)
    ·
     gi_wp2
     go_roundw
     case rel => exact ⟨pre ++ [⟨(pre.length, R.extract 0 k), hp1, hx1⟩], R.extract (k + 1) R.size, true, rfl, rfl, by simp, by rw [ByteArray.size_extract]; omega, by simp; omega, HN, Lib.hid hJ3⟩
     case measure => simp only [ByteArray.size_extract]; omega
    ·
     gi_wp2
     refine bodyPost_ret (results_none rfl _ _ _) rfl ?_
     exact ⟨⟨_, rfl⟩, .inr ⟨pre ++ [⟨(pre.length, R.extract 0 k), hp1, hx1⟩], HN.out.some, hJx3⟩⟩
theorem lines_in (n : Nat) (s : ByteArray) (w : World) : CallsIn Fence.wide n Tryz.prog 95 #[.string s] w fun e w' => e = .returned (.func (.func 133) #[] #[.pointer (some ⟨w.heap.size, 0, none⟩)]) ∧ w' = w.alloc (.cells #[.string s] 9) := by
 refine callsIn_of_wp Tryz.func95 rfl trivial ?_ rfl
 simp only [Tryz.ntmps95, List.size_toArray, List.length_cons, List.length_nil, Nat.reduceAdd, Nat.reduceSub, Array.replicate_succ, Array.replicate_zero, List.push_toArray, List.append_toArray, List.nil_append, List.cons_append]
 gi_wp2
 go_ret
 exact ⟨rfl, rfl⟩
theorem lines_stops (n : Nat) (hn : 1 ≤ n) (Kp : World → World → Prop) (s : ByteArray) (hs : s.size ≤ 90000) (Bn : Nat) (w : World) (hBn : Bn < w.heap.size) (hc : w.cell? ⟨Bn, 0, none⟩ = some (.string s)) :
  SeqStopsK Fence.wide n Tryz.prog 133 #[.pointer (some ⟨Bn, 0, none⟩)] encLn Kp (AllLn s.data.toList) (SomeLn s.data.toList) (s.size + 1) w := fun l J Jx W hW hJ _ hY h0 =>
 lines1_in n hn s hs l Bn Kp J Jx _ hJ hY W ((hW.cell (p := ⟨Bn, 0, none⟩) hBn).trans hc) h0
end
section
open Go.RowKit Go.Shelf
attribute [local go_sem] Oper.semAt_some
theorem joinC_snoc (c : UInt8) (p : Bs) : ∀ (l : List Bs), l ≠ [] → joinC c (l ++ [p]) = joinC c l ++ c :: p
 | [], h => absurd rfl h
 | [q], _ => by simp [joinC]
 | q :: r :: l, _ => by
  have := joinC_snoc c p (r :: l) (by simp)
  rw [List.cons_append, joinC_cons _ _ (by simp), this, joinC_cons c q (l := r :: l) (by simp)]; simp
theorem spl_snoc (c : UInt8) (t : Bs) : spl c (t ++ [c]) = spl c t ++ [[]] := by
 have hne := spl_ne c t
 have e : joinC c (spl c t ++ [[]]) = t ++ [c] := by rw [joinC_snoc c [] _ hne, joinC_spl]
 rw [← e]
 exact spl_joinC c _ (by simp) (fun p hp => by
  rcases List.mem_append.1 hp with h | h
  ·
   exact (spl_clean c t p h).1
  ·
   simp at h; subst h; simp)
theorem lines_yes (t : Bs) : linesO (t ++ [10]) = some (spl 10 t) := by unfold linesO; rw [spl_snoc]; simp
theorem lines_nil : linesO [] = some [] := rfl
theorem lines_no {s : Bs} (h0 : s ≠ []) (h : s.getLast? ≠ some 10) : linesO s = none := by
 unfold linesO
 rw [if_neg]
 intro g
 obtain ⟨init, hi⟩ := List.getLast?_eq_some_iff.1 g
 have hj := joinC_spl 10 s
 rw [hi] at hj
 by_cases hn : init = []
 ·
  subst hn; exact h0 (by rw [← hj]; rfl)
 ·
  rw [joinC_snoc 10 [] init hn] at hj
  exact h (by rw [← hj]; simp)
def PLinesPost (s : Bs) (w : World) (e : Ending) (w' : World) : Prop := ∃ v z, e = .returned (.tuple #[v, .int .i64 z]) ∧ (∀ ls, linesO s = some ls → z = 0 ∧ OwnT w' w.heap.size v ls) ∧ (linesO s = none → z = 2 ∧ v = .slice none 0 0) ∧ Below w.heap.size w w'
def txtOf (x : LineX) : Value := .string x.1.2
theorem txts_of (ys : List LineX) : ys.map txtOf = txts (ys.map lnOf) := by
 unfold txts
 rw [List.map_map]
 refine congrArg (fun g => List.map g ys) (funext fun x => ?_)
 show Value.string x.1.2 = Value.string ⟨(x.1.2.data.toList).toArray⟩
 rw [← strOf (x := x.1.2) rfl]
theorem slines_any (s : ByteArray) (hs : s.size ≤ 90000) (w : World) : Calls Tryz.prog 64 #[.string s] w (PLinesPost s.data.toList w) := by
 by_cases h0 : s.size = 0
 ·
  have e1 : s.toList.isEmpty = true := by rw [emptyT, decide_eq_true h0]
  have hl : s.data.toList = [] := List.eq_nil_of_length_eq_zero (by rw [← sizeOf]; exact h0)
  have HP : Hid (PLinesPost s.data.toList w (.returned (.tuple #[.slice none 0 0, .int .i64 0])) w) := Lib.hid ⟨_, _, rfl, (fun ls h => by
   rw [hl, lines_nil] at h; cases h; exact ⟨rfl, OwnT.nil _ _⟩), (fun h => by rw [hl, lines_nil] at h; cases h), Below.refl _ _⟩
  clear hl h0
  go_enter Tryz.func64, Tryz.ntmps64
  go_wp2
  go_ret2
  exact HP.out
 ·
  have e1 : s.toList.isEmpty = false := by rw [emptyT, decide_eq_false h0]
  have hne : s.data.toList ≠ [] := fun g => h0 (by rw [sizeOf, g]; rfl)
  by_cases hlast : s.data.toList.getLast? = some 10
  ·
   obtain ⟨t, ht⟩ := List.getLast?_eq_some_iff.1 hlast
   obtain ⟨T, hT⟩ : ∃ T : ByteArray, T.data.toList = t := ⟨⟨t.toArray⟩, by simp⟩
   have hTs : T.size ≤ 90000 := by
    have h1 := sizeOf s
    have h2 := sizeOf T
    rw [ht, List.length_append] at h1
    rw [hT] at h2
    simp at h1; omega
   have hsuf : Lib.hasSuffix s.data.toList [10] = true := by rw [ht]; unfold Lib.hasSuffix; exact List.isSuffixOf_iff_suffix.2 ⟨t, rfl⟩
   have C : ∀ w, Calls Tryz.prog 113 #[.string s, .string ⟨#[10]⟩] w fun e w' => e = .returned (.tuple #[.string T, .bool true]) ∧ w = w' := fun w => (Tryz.strings_CutSuffix s ⟨#[10]⟩ w (by omega)).mono fun e w' hp => ⟨by
    rw [hp.1]
    have e2 : Lib.trimSuffix s.data.toList (ByteArray.mk #[10]).data.toList = T.data.toList := by
     show Lib.trimSuffix s.data.toList [10] = _
     unfold Lib.trimSuffix
     rw [hsuf, if_pos rfl, hT, ht]; simp
    have e3 : Lib.hasSuffix s.data.toList (ByteArray.mk #[10]).data.toList = true := hsuf
    rw [e2, e3, ← strOf (x := T) rfl], hp.2.symm⟩
   have HP : Hid (∀ v w' (ys : List LineX), AllLn T.data.toList ys → w'.ownsRow w.heap.size 9 1 v ys.length (ys.map txtOf) → Below w.heap.size w w' → PLinesPost s.data.toList w (.returned (.tuple #[v, .int .i64 0])) w') := Lib.hid (fun v w' ys hy hr hb => ⟨v, 0, rfl, (fun ls h => by
    rw [ht, lines_yes, ← hT, ← hy.1] at h
    cases h
    refine ⟨rfl, ?_⟩
    unfold OwnT
    rw [List.length_map, ← txts_of]; exact hr), (fun h => by rw [ht, lines_yes] at h; cases h), hb⟩)
   clear ht hT hsuf hlast hne h0
   obtain ⟨i0, hi, hz0, hz1, hz2⟩ := info_parts infoT
   refine (callsIn_wide (n := 5)).1 ?_
   refine callsIn_of_wp_marks Tryz.func64 rfl trivial ?_ rfl
   simp only [Tryz.ntmps64, List.size_toArray, List.length_cons, List.length_nil, Nat.reduceAdd, Nat.reduceSub, Array.replicate_succ, Array.replicate_zero, List.push_toArray, List.append_toArray, List.nil_append, List.cons_append]
   gi_wp2_with (first | (refine ⟨trivial, ?_⟩; gi_at_call 113; refine (callsIn_wide.2 (C _)).mono ?_; rintro e w1 ⟨rfl, rfl⟩) | (refine ⟨trivial, ?_⟩; gi_at_call 95; refine (lines_in _ _ _).mono ?_; rintro e w' ⟨rfl, rfl⟩))
   have bO := Boxed.new w 40 (.slice none 0 0)
   have bN : ((w.alloc (.cells #[.slice none 0 0] 40)).alloc (.cells #[.string T] 9)).cell? ⟨w.heap.size + 1, 0, none⟩ = some (.string T) := by simp
   have hB0 : Below w.heap.size w ((w.alloc (.cells #[.slice none 0 0] 40)).alloc (.cells #[.string T] 9)) := ((Below.refl _ w).alloc (Nat.le_refl _) _).alloc (by simp) _
   refine wpIn_rangeFunc_ownG rfl (by omega) (gf := 133) (lb := #[.pointer (some ⟨w.heap.size + 1, 0, none⟩)]) rfl trivial (enters_of Tryz.func133 (by kernel_rfl) rfl)
    (lines_stops _ (by omega) (fun _ _ => True) T hTs (w.heap.size + 1) _ (by simp) bN) (fun _ _ => trivial) (fun _ _ _ _ _ _ _ _ => trivial) (Below.refl _ _) (fun _ => rfl)
    (fun pre W => (∃ v, Boxed W w.heap.size 40 v ∧ W.ownsRow w.heap.size 9 1 v pre.length (pre.map txtOf) ∧ True) ∧ Below w.heap.size w W)
    (fun _ _ _ => False)
    (OwnFrom.and (Own.from (holdsRow_own w.heap.size w.heap.size 40 9 1 (fun pre : List LineX => pre.length) (fun pre => pre.map txtOf) (fun _ _ => True)) _) (ownFrom_below (Nat.le_refl _) (by simp; omega)))
    (fun _ _ _ _ _ hs _ _ => hs)
    ⟨⟨_, bO.alloc _, World.ownsRow_nil _ _ _ _, trivial⟩, hB0⟩
    (fun x => { tmps := #[.string s, undef, .slice none 0 0, .int .i64 0, .string T, .bool true, .pointer (some ⟨w.heap.size, 0, none⟩), undef, .string x.1.2, .string s, .bool false, .tuple #[.string T, .bool true], .string s, .tuple #[.string T, .bool true], .string T, .bool true, .bool true, .bool false, .string T, .func (.func 133) #[] #[.pointer (some ⟨w.heap.size + 1, 0, none⟩)], .int .i64 x.1.1, .string x.1.2, undef, undef, undef, undef, undef], defers := [] }) ?assign ?body ?done ?stop
   case assign =>
    intro l x W K hK
    dsimp only [encLn]
    gi_wp2
    exact hK
   case body =>
    rintro l pre x W ⟨⟨v, hv, hrow, _⟩, hB⟩ hlt
    have hc := hv.cell
    gi_wp2_with (gi_at_builtin; refine wpListIn_append_own _ rfl _ _ 40 rfl w.heap.size 9 i0 (.string ⟨#[]⟩) 1 16 Tryz.underlying40 hi hz0 hz1 hz2 rfl (by decide) _ _ _ rfl (hrow.alloc _) ⟨W.heap.size, 0, none⟩ 1 1 [.string x.1.2] rfl rfl (cell_one_new _ _ _) (by simp [Value.oneCell']) (by unfold maxLen; omega) (by omega) (by have := hB.size; simp; omega) ?_; intro v' w1 hown' hgrow _; obtain ⟨g', cap', rfl⟩ := ownsRow_succ hown'; obtain ⟨hv1, hv2, hr2, hk2, hb2⟩ := hv.appended (by decide) hrow hB.size (Nat.le_refl _) hown' hgrow; have hc1 := hv1.cell; have hf1 := hv1.frozen)
    exact ⟨hk2.from _, trivial, ⟨_, hv2, by simpa [txtOf] using hr2, trivial⟩, hB.trans hb2⟩
   case done =>
    rintro D ys W hD hall ⟨⟨v, hv, hrow, _⟩, hB⟩ hK
    have HF := Lib.hid (fun w9 => HP.out v w9 ys hall)
    have hc := hv.cell
    clear hall HP
    gi_wp2
    refine ⟨by simp, .inl ⟨_, _, rfl, run_takeDeferred hK, ?_⟩⟩
    refine ⟨.tuple #[v, .int .i64 0], by simp [results, Tryz.f64, go_sem], HF.out _ (ownsRow_putObj hrow _ hK rfl) (hB.trans (belowK_b (w := w) (Nat.le_refl _) W D _ _ (by simp at hD; omega) hK rfl rfl))⟩
   case stop =>
    rintro D c pre W _ _ h _
    exact h.elim
  ·
   have hsuf : Lib.hasSuffix s.data.toList [10] = false := by
    cases hq : Lib.hasSuffix s.data.toList [10]
    ·
     rfl
    ·
     unfold Lib.hasSuffix at hq
     obtain ⟨t, ht⟩ := List.isSuffixOf_iff_suffix.1 hq
     exact absurd (by rw [← ht]; simp) hlast
   have C : ∀ w, Calls Tryz.prog 113 #[.string s, .string ⟨#[10]⟩] w fun e w' => ∃ T : ByteArray, e = .returned (.tuple #[.string T, .bool false]) ∧ w = w' := fun w => (Tryz.strings_CutSuffix s ⟨#[10]⟩ w (by omega)).mono fun e w' hp => by
    have e3 : Lib.hasSuffix s.data.toList (ByteArray.mk #[10]).data.toList = false := hsuf
    rw [e3] at hp
    exact ⟨_, hp.1, hp.2.symm⟩
   have HP : Hid (PLinesPost s.data.toList w (.returned (.tuple #[.slice none 0 0, .int .i64 2])) w) := Lib.hid ⟨_, _, rfl, (fun ls h => by
    rw [lines_no hne hlast] at h; cases h), (fun _ => ⟨rfl, rfl⟩), Below.refl _ _⟩
   clear hsuf hlast hne h0
   go_enter Tryz.func64, Tryz.ntmps64
   go_wp2_with (go_at_call 113; refine (C _).mono ?_; rintro e w1 ⟨T, rfl, rfl⟩)
   go_ret2
   exact HP.out
end
end Go.Proofs.YtkbkaeefdhkgdaaGreatDoor
