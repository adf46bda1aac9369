/-
  The program's Words: strings.SplitSeq's iterator, that keeps what is left in a box of its own; what Words returns; nothing old turns.
-/
import Derived.Test.YtceohgjfjndcmaaGreatDoorSPLines2
import Derived.Test.YtceohgjfjndcmaaGreatDoorRBox
import Derived.Sort.LoopGhostIn
import Derived.Stop.RegionWithIn
namespace Go.Proofs.YtceohgjfjndcmaaGreatDoor
open Go.RowKit Go.Shelf
attribute [local go_sem] Oper.semAt_some
abbrev WordX := { x : ByteArray // x.size ≤ 100000 }
def wdOf (x : WordX) : Bs := x.1.data.toList
def encW (x : WordX) : Array Value := #[.string x.1]
def AllW (s : Bs) (ys : List WordX) : Prop := ys.map wdOf = spl 32 s
def AtW (s : Bs) (pre : List WordX) (R : ByteArray) : Prop := spl 32 s = pre.map wdOf ++ spl 32 R.data.toList
theorem AtW.start (s : ByteArray) : AtW s.data.toList [] s := rfl
theorem AtW.last {s : Bs} {pre : List WordX} {R : ByteArray} (h : AtW s pre R) (hf : firstI 32 R.data.toList = -1) (x : WordX) (hr : x.1 = R) : AllW s (pre ++ [x]) := by
  unfold AllW AtW at *
  rw [h, spl_no 32 _ (firstI_neg.1 (by omega)), List.map_append]
  simp [wdOf, hr]
theorem AtW.next {s : Bs} {pre : List WordX} {R : ByteArray} (h : AtW s pre R) {k : Nat} (hf : firstI 32 R.data.toList = k) (hk : k < R.size) (x : WordX) (hr : x.1 = R.extract 0 k) : AtW s (pre ++ [x]) (R.extract (k + 1) R.size) := by
  obtain ⟨h1, h2⟩ := first_not hf (by rw [← sizeOf]; exact hk)
  have e1 : (R.extract 0 k).data.toList = R.data.toList.take k := by rw [extL]; simp
  have e2 : (R.extract (k + 1) R.size).data.toList = R.data.toList.drop (k + 1) := by rw [extL, List.take_of_length_le (by rw [List.length_drop, ← sizeOf]; omega)]
  have e3 : spl 32 R.data.toList = R.data.toList.take k :: spl 32 (R.data.toList.drop (k + 1)) := by
    conv => lhs; rw [h2]
    exact spl_at 32 _ _ h1
  unfold AtW at *
  rw [h, e3, List.map_append, e2]
  simp [wdOf, hr]
theorem AtW.len {s : ByteArray} {pre : List WordX} {R : ByteArray} (h : AtW s.data.toList pre R) : pre.length < s.size + 1 := by
  have h1 := spl_len 32 s.data.toList
  unfold AtW at h
  rw [h, List.length_append, List.length_map] at h1
  have h2 := List.length_pos_iff.2 (spl_ne 32 R.data.toList)
  rw [sizeOf]; omega
/-- The iterator's three boxes. -/
structure Boxes (W : World) (B : Nat) (R : ByteArray) : Prop where
  s : Boxed W B 9 (.string R)
  sep : W.cell? ⟨B + 1, 0, none⟩ = some (.string ⟨#[32]⟩)
  save : W.cell? ⟨B + 2, 0, none⟩ = some (.int .i64 0)
theorem Boxes.mid {W W' : World} {B : Nat} {R : ByteArray} (h : Boxes W B R) (hk : MidKept B (B + 3) W W') : Boxes W' B R :=
  ⟨(hk B (Nat.le_refl _) (by omega)).trans h.s, (hk.cell (by omega) (by omega)).trans h.sep, (hk.cell (by omega) (by omega)).trans h.save⟩
theorem Boxes.drew {W : World} {B : Nat} {R : ByteArray} (h : Boxes W B R) (q : Nat) : Boxes (W.drewN q) B R := h.mid (fun _ _ _ => rfl)
theorem Boxes.set {W : World} {B : Nat} {R : ByteArray} (h : Boxes W B R) (R' : ByteArray) : Boxes (W.setCell ⟨B, 0, none⟩ (.string R')) B R' := by
  refine ⟨h.s.set _, ?_, ?_⟩
  · exact (World.cell?_of_block (Deep.blk_setCell_other W ⟨B, 0, none⟩ _ (B + 1) (by simp))).trans h.sep
  · exact (World.cell?_of_block (Deep.blk_setCell_other W ⟨B, 0, none⟩ _ (B + 2) (by simp))).trans h.save
def SeqPost (s : Bs) (J : List WordX → World → Prop) (e : Ending) (W' : World) : Prop := (∃ v, e = .returned v) ∧ ∃ ys, AllW s ys ∧ J ys W'
set_option maxRecDepth 100000 in
set_option maxHeartbeats 4000000 in
theorem split1_in (n : Nat) (hn : 1 ≤ n) (s : ByteArray) (hs : s.size ≤ 90000) (l B0 : Nat) (J : List WordX → World → Prop) (B : Nat) (hJ : BoxAbides B ⟨B0, 0, none⟩ J)
    (hY : ∀ pre x W, J pre W → pre.length < s.size + 1 → YieldAt Fence.wide (n - 1) Tryz.prog l (encW x) W fun e W' => e = .returned (.bool true) ∧ J (pre ++ [x]) W' ∧ MidKept B0 (B0 + 3) W W')
    (W : World) (hb : Boxes W B0 s) (h0 : J [] W) :
    CallsIn Fence.wide n Tryz.prog 145 #[.func (.yield l) #[] #[], .pointer (some ⟨B0 + 1, 0, none⟩), .pointer (some ⟨B0, 0, none⟩), .pointer (some ⟨B0 + 2, 0, none⟩)] W (SeqPost s.data.toList J) := by
  refine callsIn_of_wp Tryz.func145 rfl trivial ?_ rfl
  simp only [Tryz.ntmps145, List.size_toArray, List.length_cons, List.length_nil, Nat.reduceAdd, Nat.reduceSub, Array.replicate_succ, Array.replicate_zero, List.push_toArray, List.append_toArray, List.nil_append, List.cons_append]
  have c1 := hb.sep
  have HB := Lib.hid hb
  clear hb
  gi_wp2
  gi_loopg [] (s.size + 1) (fun gg wr => ∃ (pre : List WordX) (R : ByteArray), R.size + 1 ≤ gg ∧ R.size ≤ s.size ∧ Hid (Boxes wr B0 R) ∧ Hid (AtW s.data.toList pre R) ∧ Hid (J pre wr))
  case atStart => exact ⟨[], s, Nat.le_refl _, Nat.le_refl _, HB, Lib.hid (AtW.start s), Lib.hid h0⟩
  case round =>
    obtain ⟨pre, R, hg, hR, HX, HA, HJ⟩ := hrel
    have d1 := HX.out.sep
    have d0 := HX.out.s.cell
    have d2 := HX.out.save
    have df := HX.out.s.frozen
    have hlen := HA.out.len
    rcases first_cases R 32 with hf | ⟨k, hf, hk⟩
    · have C : ∀ w, Calls Tryz.prog 147 #[.string R, .string ⟨#[32]⟩] w fun e w' => e = .returned (.int .i64 (-1)) ∧ w = w' := fun w => (Tryz.strings_Index_one R 32 w).mono fun e w' hp => ⟨by rw [hp.1, idx_first, hf], hp.2.symm⟩
      have HL := Lib.hid (fun x hr => HA.out.last hf x hr)
      clear hf
      gi_wp2_with (first
        | (refine ⟨trivial, ?_⟩; gi_at_call 147; refine (callsIn_wide.2 (C _)).mono ?_; rintro e w1 ⟨rfl, rfl⟩; obtain ⟨fn, tmps, assign, body, hy, hRd⟩ := hY pre ⟨R, by omega⟩ wr HJ.out hlen; dsimp only [encW] at hy))
      refine hRd.mono ?_
      rintro e W3 ⟨rfl, hJ3, -⟩
      gi_wp2
      refine bodyPost_ret (results_none rfl _ _ _) rfl ?_
      exact ⟨⟨_, rfl⟩, _, HL.out _ rfl, hJ3⟩
    · have C : ∀ w, Calls Tryz.prog 147 #[.string R, .string ⟨#[32]⟩] w fun e w' => e = .returned (.int .i64 k) ∧ w = w' := fun w => (Tryz.strings_Index_one R 32 w).mono fun e w' hp => ⟨by rw [hp.1, idx_first, hf], hp.2.symm⟩
      have hx1 : (R.extract 0 k).size ≤ 100000 := by rw [ByteArray.size_extract]; omega
      have HN := Lib.hid (HA.out.next hf hk ⟨R.extract 0 k, hx1⟩ rfl)
      have hRs : R.size ≤ 90000 := by omega
      clear hf HA
      gi_wp2_with (first
        | (refine ⟨trivial, ?_⟩; gi_at_call 147; refine (callsIn_wide.2 (C _)).mono ?_; rintro e w1 ⟨rfl, rfl⟩; obtain ⟨fn, tmps, assign, body, hy, hRd⟩ := hY pre ⟨R.extract 0 k, hx1⟩ wr HJ.out hlen; dsimp only [encW] at hy))
      refine hRd.mono ?_
      rintro e W3 ⟨rfl, hJ3, hm3⟩
      have HX3 := Lib.hid (HX.out.mid hm3)
      have e1 := HX3.out.sep
      have e0 := HX3.out.s.cell
      have ef := HX3.out.s.frozen
      clear hm3 d1 d0 d2 df
      gi_wp2
      go_roundg (R.size - k)
      case measure => omega
      case rel => exact ⟨pre ++ [⟨R.extract 0 k, hx1⟩], R.extract (k + 1) R.size, by rw [ByteArray.size_extract]; omega, by rw [ByteArray.size_extract]; omega, Lib.hid (HX3.out.set _), HN, Lib.hid (hJ.2 _ _ _ hJ3)⟩
/-- SplitSeq's value: the boxes are laid. -/
theorem splitSeq_in (n : Nat) (s : ByteArray) (w : World) : CallsIn Fence.wide n Tryz.prog 122 #[.string s, .string ⟨#[32]⟩, .int .i64 0] w fun e w' =>
    e = .returned (.func (.func 145) #[] #[.pointer (some ⟨w.heap.size + 1, 0, none⟩), .pointer (some ⟨w.heap.size, 0, none⟩), .pointer (some ⟨w.heap.size + 2, 0, none⟩)]) ∧ w' = ((w.alloc (.cells #[.string s] 9)).alloc (.cells #[.string ⟨#[32]⟩] 9)).alloc (.cells #[.int .i64 0] 3) := by
  refine callsIn_of_wp Tryz.func122 rfl trivial ?_ rfl
  simp only [Tryz.ntmps122, List.size_toArray, List.length_cons, List.length_nil, Nat.reduceAdd, Nat.reduceSub, Array.replicate_succ, Array.replicate_zero, List.push_toArray, List.append_toArray, List.nil_append, List.cons_append]
  gi_wp2
  go_ret
  exact ⟨rfl, rfl⟩
theorem seq_in (n : Nat) (s : ByteArray) (w : World) : CallsIn Fence.wide n Tryz.prog 103 #[.string s, .string ⟨#[32]⟩] w fun e w' =>
    e = .returned (.func (.func 145) #[] #[.pointer (some ⟨w.heap.size + 1, 0, none⟩), .pointer (some ⟨w.heap.size, 0, none⟩), .pointer (some ⟨w.heap.size + 2, 0, none⟩)]) ∧ w' = ((w.alloc (.cells #[.string s] 9)).alloc (.cells #[.string ⟨#[32]⟩] 9)).alloc (.cells #[.int .i64 0] 3) := by
  refine callsIn_of_wp Tryz.func103 rfl trivial ?_ rfl
  simp only [Tryz.ntmps103, List.size_toArray, List.length_cons, List.length_nil, Nat.reduceAdd, Nat.reduceSub, Array.replicate_succ, Array.replicate_zero, List.push_toArray, List.append_toArray, List.nil_append, List.cons_append]
  gi_wp2
  refine ⟨trivial, (fun h => by cases h), (splitSeq_in _ _ _).mono ?_⟩
  rintro e w' ⟨rfl, rfl⟩
  gi_wp2
  go_ret
  exact ⟨rfl, rfl⟩
theorem Boxes.new (W : World) (s : ByteArray) : Boxes (((W.alloc (.cells #[.string s] 9)).alloc (.cells #[.string ⟨#[32]⟩] 9)).alloc (.cells #[.int .i64 0] 3)) W.heap.size s :=
  by
  have h1 : Boxed ((W.alloc (.cells #[.string s] 9)).alloc (.cells #[.string ⟨#[32]⟩] 9)) (W.heap.size + 1) 9 (.string ⟨#[32]⟩) := by
    have := Boxed.new (W.alloc (.cells #[.string s] 9)) 9 (.string ⟨#[32]⟩)
    rwa [World.size_alloc] at this
  have h2 := Boxed.new ((W.alloc (.cells #[.string s] 9)).alloc (.cells #[.string ⟨#[32]⟩] 9)) 3 (.int .i64 0)
  rw [World.size_alloc, World.size_alloc] at h2
  exact ⟨((Boxed.new W _ _).alloc _).alloc _, (h1.alloc _).cell, h2.cell⟩
theorem gives_words (n : Nat) (hn : 1 ≤ n) (s : ByteArray) (hs : s.size ≤ 90000) (B0 : Nat) (w : World) (hB : B0 + 3 ≤ w.heap.size) (hb : Boxes w B0 s) :
    GivesBox Fence.wide n Tryz.prog 145 #[.pointer (some ⟨B0 + 1, 0, none⟩), .pointer (some ⟨B0, 0, none⟩), .pointer (some ⟨B0 + 2, 0, none⟩)] encW B0 (B0 + 3) ⟨B0, 0, none⟩ (AllW s.data.toList) (s.size + 1) w := fun l J W hW hJ hY h0 =>
  split1_in n hn s hs l B0 J _ hJ hY W (hb.mid (fun k _ h2 => hW.block k (by omega))) h0
end Go.Proofs.YtceohgjfjndcmaaGreatDoor
